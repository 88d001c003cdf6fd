/- strings.Builder: its methods, at a builder in a block of its own. strings.Builder's WriteString, and what it leaves as it was. core.tell: its stack of pieces. -/
import Derived.Test.YtfjepjkbflcjbaaGreatDoorCoZ
import Derived.Lib.MakeNoZero
namespace Go.Proofs.YtfjepjkbflcjbaaGreatDoor
section
section
open Go Go.RowKit
attribute [local go_sem ↓] Go.wp_at_zero Go.wp_at_succ
theorem Tryz.liesSb : liesAt Tryz.prog (Tryz.prog).depth 60 (2 / (Tryz.prog).cellsOf 60) 0 60 1 = true := by kernel_rfl
theorem Tryz.neSb : (60 : TypeId) ≠ 5 := by decide
/-- A writer in a block of its own (b, from B on), that holds these bytes. -/
abbrev SbAt (B b : Nat) (l : List UInt8) (w : World) : Prop := Lib.IsBuilder 60 5 B b (Lib.byteCells l) w
set_option maxHeartbeats 1000000 in
set_option maxRecDepth 100000 in
theorem sb_check_used (b : Nat) (w : World) (h0 : w.cell? ⟨b, 0, none⟩ = some (.pointer (some ⟨b, 0, none⟩))) :
    Calls Tryz.prog 36 #[.pointer (some ⟨b, 0, none⟩)] w fun e w' => e = .returned (.tuple #[]) ∧ w' = w := by
  obtain ⟨j, hj, _⟩ := Option.map_eq_some_iff.1 Tryz.sizeBd
  go_enter Tryz.func36, Tryz.ntmps36
  go_wp2
  rw [Lib.run_neq_ptr_same w _ Tryz.ptrBd hj]
  go_wp2
  go_end0
  exact ⟨rfl, rfl⟩
set_option maxHeartbeats 1000000 in
set_option maxRecDepth 100000 in
theorem sb_check_fresh (b : Nat) (w : World) (h0 : w.cell? ⟨b, 0, none⟩ = some (.pointer none)) (hsh : w.shape? b = some (60, 2)) (hfz : w.frozen? ⟨b, 0, none⟩ = false) :
    Calls Tryz.prog 36 #[.pointer (some ⟨b, 0, none⟩)] w fun e w' => e = .returned (.tuple #[]) ∧ w' = w.setCell ⟨b, 0, none⟩ (.pointer (some ⟨b, 0, none⟩)) := by
  obtain ⟨j, hj, hjs⟩ := Option.map_eq_some_iff.1 Tryz.sizeBd
  go_enter Tryz.func36, Tryz.ntmps36
  go_wp2
  rw [Lib.run_to_unsafe w ⟨b, 0, none⟩ Tryz.ptrBd Tryz.unsBd hj (by rw [hjs]; decide) hsh (Nat.zero_lt_succ 1)]
  simp only [Result.andThen]
  rw [Oper.upon_value]
  go_wp2
  rw [run_callFunc_extern Tryz.func61 (by kernel_rfl) (by kernel_rfl) (by kernel_rfl) (e := Extern.AbiNoEscape.same) (by kernel_rfl)]
  rw [Lib.run_noEscape]
  simp only [Result.andThen]
  rw [Oper.upon_value]
  go_wp2
  rw [Lib.run_from_unsafe w ⟨b, 0, none⟩ Tryz.unsBd Tryz.ptrBd hj hsh Tryz.liesSb]
  simp only [Result.andThen]
  rw [Oper.upon_value]
  go_wp2
  go_end0
  exact ⟨rfl, rfl⟩
set_option maxHeartbeats 2000000 in
set_option maxRecDepth 100000 in
theorem sb_string_some (B b : Nat) (l : List UInt8) (w : World) (h : SbAt B b l w) (h0 : l ≠ []) :
    Calls Tryz.prog 22 #[.pointer (some ⟨b, 0, none⟩)] w fun e w' => e = .returned (.string ⟨l.toArray⟩) ∧ Below B w w' := by
  obtain ⟨p, hB, v, hbk, hown, hne⟩ : ∃ p, Lib.BuilderAt 60 5 B b p (Lib.byteCells l) w := by
    rcases h with h | h
    · exact ⟨_, h⟩
    · exact ⟨_, h⟩
  have hl0 : l.length ≠ 0 := by simpa using h0
  rw [Lib.byteCells_length] at hown
  obtain ⟨g, cap, cur, rfl, hbg, hg, hnc, hcm, hcs, htake⟩ : ∃ g cap cur, v = .slice (some ⟨g, 0, none⟩) l.length cap ∧ B ≤ g ∧ w.heap[g]? = some (.cells cur 5 (0, 0)) ∧ l.length ≤ cap ∧ cap ≤ maxLen ∧ cur.size = cap * 1 ∧ cur.toList.take (l.length * 1) = Lib.byteCells l := by
    rcases hown.2 with ⟨_, hz⟩ | ⟨g, cap, cur, hv, r⟩
    · exact absurd hz hl0
    · exact ⟨g, cap, cur, hv, r⟩
  have c1 : w.drew.cell? ⟨b, 1, none⟩ = some (.slice (some ⟨g, 0, none⟩) l.length cap) := by
    have : w.drew.heap[b]? = some (.cells #[p, .slice (some ⟨g, 0, none⟩) l.length cap] 60 (0, 0)) := hbk
    rw [Lib.cell_of_heap this]; rfl
  have hSD : (Builtin.unsafeSliceData_ #[58] 93 #[.slice (some ⟨g, 0, none⟩) l.length cap]).run Tryz.prog w.drew = .ok (.pointer (some ⟨g, 0, none⟩)) w.drew :=
    Lib.run_unsafeSliceData_row _ _ _ _ _ _ (by omega)
  have hUS : (Builtin.unsafeString_ #[93, 3] 9 #[.pointer (some ⟨g, 0, none⟩), .int .i64 l.length]).run Tryz.prog w.drew = .ok (.string ⟨l.toArray⟩) (w.drew.freeze ⟨g, 0, none⟩ l.length) := by
    refine Lib.run_unsafeString_row w.drew 93 3 9 5 Tryz.pbyBd Tryz.cellBd g cur.size (by have hg' : w.drew.heap[g]? = some (.cells cur 5 (0, 0)) := hg; simp [World.shape?, hg']) l h0 (by omega) (by unfold maxLen at hcm; omega) ?_
    intro j x hx
    exact hown.cells (g := g) rfl j (.int .u8 x.toNat) (by simp [Lib.byteCells, hx])
  clear h hown hne htake hcs hcm hg hbk
  go_enter Tryz.func22, Tryz.ntmps22
  go_wp2
  go_region
  all_goals (go_wp2; go_ret; exact ⟨rfl, Lib.below_freeze (Below.drew (Below.refl B w)) (p := ⟨g, 0, none⟩) hbg _⟩)
theorem sb_str0 (W : World) (q : Option Addr) : (Builtin.unsafeString_ #[93, 3] 9 #[.pointer q, .int .i64 0]).run Tryz.prog W = .ok (.string .empty) W := Lib.run_unsafeString_none W _ _ _ q
set_option maxHeartbeats 2000000 in
set_option maxRecDepth 100000 in
theorem sb_string_nil (B b : Nat) (p : Value) (w : World) (hbk : w.heap[b]? = some (.cells #[p, .slice none 0 0] 60 (0, 0))) :
    Calls Tryz.prog 22 #[.pointer (some ⟨b, 0, none⟩)] w fun e w' => e = .returned (.string ⟨#[]⟩) ∧ Below B w w' := by
  have hUS := sb_str0
  have c1 : w.drew.cell? ⟨b, 1, none⟩ = some (.slice none 0 0) := by
    have : w.drew.heap[b]? = some (.cells #[p, .slice none 0 0] 60 (0, 0)) := hbk
    rw [Lib.cell_of_heap this]; rfl
  have hSD : (Builtin.unsafeSliceData_ #[58] 93 #[.slice none 0 0]).run Tryz.prog w.drew = .ok (.pointer none) w.drew := rfl
  go_enter Tryz.func22, Tryz.ntmps22
  go_wp2
  go_region
  all_goals (go_wp2; go_ret; exact ⟨rfl, Below.drew (Below.refl B w)⟩)
set_option maxHeartbeats 2000000 in
set_option maxRecDepth 100000 in
theorem sb_string_noroom (B b g : Nat) (p : Value) (cur : Array Value) (w : World) (hBw : B ≤ w.heap.size) (hbk : w.heap[b]? = some (.cells #[p, .slice (some ⟨g, 0, none⟩) 0 0] 60 (0, 0))) (hg : w.heap[g]? = some (.cells cur 5 (0, 0))) :
    Calls Tryz.prog 22 #[.pointer (some ⟨b, 0, none⟩)] w fun e w' => e = .returned (.string ⟨#[]⟩) ∧ Below B w w' := by
  have hUS := sb_str0
  have hlt : b < w.heap.size := by
    rcases Nat.lt_or_ge b w.heap.size with h' | h'
    · exact h'
    · simp [Array.getElem?_eq_none h'] at hbk
  have c1 : w.drew.cell? ⟨b, 1, none⟩ = some (.slice (some ⟨g, 0, none⟩) 0 0) := by
    have : w.drew.heap[b]? = some (.cells #[p, .slice (some ⟨g, 0, none⟩) 0 0] 60 (0, 0)) := hbk
    rw [Lib.cell_of_heap this]; rfl
  have hSD : (Builtin.unsafeSliceData_ #[58] 93 #[.slice (some ⟨g, 0, none⟩) 0 0]).run Tryz.prog w.drew = .ok (.pointer (some ⟨w.drew.heap.size, 0, none⟩)) (w.drew.alloc (.view ⟨g, 0, none⟩ 5)) :=
    Lib.run_unsafeSliceData_zero w.drew _ _ 5 Tryz.pbyBd ⟨g, 0, none⟩ 0 (5, cur.size) (by have hg' : w.drew.heap[g]? = some (.cells cur 5 (0, 0)) := hg; simp [World.shape?, hg'])
  have c2 : (w.drew.alloc (.view ⟨g, 0, none⟩ 5)).cell? ⟨b, 1, none⟩ = some (.slice (some ⟨g, 0, none⟩) 0 0) := by
    have : (w.drew.alloc (.view ⟨g, 0, none⟩ 5)).heap[b]? = _ := (Lib.alloc_old w.drew _ b hlt).trans hbk
    rw [Lib.cell_of_heap this]; rfl
  have c3 : (w.alloc (.view ⟨g, 0, none⟩ 5)).drew.cell? ⟨b, 1, none⟩ = some (.slice (some ⟨g, 0, none⟩) 0 0) := c2
  have c0 : w.cell? ⟨b, 1, none⟩ = some (.slice (some ⟨g, 0, none⟩) 0 0) := c1
  go_enter Tryz.func22, Tryz.ntmps22
  go_wp2
  go_region
  all_goals (go_wp2; go_ret; exact ⟨rfl, (Below.drew (Below.refl B w)).alloc hBw _⟩)
set_option maxHeartbeats 2000000 in
set_option maxRecDepth 100000 in
theorem sb_string_room (B b g cap : Nat) (p : Value) (w : World) (hc0 : cap ≠ 0) (hbk : w.heap[b]? = some (.cells #[p, .slice (some ⟨g, 0, none⟩) 0 cap] 60 (0, 0))) :
    Calls Tryz.prog 22 #[.pointer (some ⟨b, 0, none⟩)] w fun e w' => e = .returned (.string ⟨#[]⟩) ∧ Below B w w' := by
  have hUS := sb_str0
  have c1 : w.drew.cell? ⟨b, 1, none⟩ = some (.slice (some ⟨g, 0, none⟩) 0 cap) := by
    have : w.drew.heap[b]? = some (.cells #[p, .slice (some ⟨g, 0, none⟩) 0 cap] 60 (0, 0)) := hbk
    rw [Lib.cell_of_heap this]; rfl
  have hSD : (Builtin.unsafeSliceData_ #[58] 93 #[.slice (some ⟨g, 0, none⟩) 0 cap]).run Tryz.prog w.drew = .ok (.pointer (some ⟨g, 0, none⟩)) w.drew :=
    Lib.run_unsafeSliceData_row _ _ _ _ _ _ hc0
  clear hc0
  go_enter Tryz.func22, Tryz.ntmps22
  go_wp2
  go_region
  all_goals (go_wp2; go_ret; exact ⟨rfl, Below.drew (Below.refl B w)⟩)
theorem sb_string (B b : Nat) (l : List UInt8) (w : World) (h : SbAt B b l w) (hBw : B ≤ w.heap.size) :
    Calls Tryz.prog 22 #[.pointer (some ⟨b, 0, none⟩)] w fun e w' => e = .returned (.string ⟨l.toArray⟩) ∧ Below B w w' := by
  cases l with
  | cons x r => exact sb_string_some B b (x :: r) w h (by simp)
  | nil =>
    obtain ⟨p, hB, v, hbk, hown, hne⟩ : ∃ p, Lib.BuilderAt 60 5 B b p [] w := by
      rcases h with h | h
      · exact ⟨_, h⟩
      · exact ⟨_, h⟩
    rcases hown.2 with ⟨rfl, _⟩ | ⟨g, cap, cur, rfl, hbg, hg, _, _, _, _⟩
    · exact sb_string_nil B b p w hbk
    · by_cases hc0 : cap = 0
      · subst hc0
        exact sb_string_noroom B b g p cur w hBw hbk hg
      · exact sb_string_room B b g cap p w hc0 hbk
theorem SbAt.up {B b : Nat} {l : List UInt8} {w w' : World} (h : SbAt B b l w) (hb : Below w.heap.size w w') : SbAt B b l w' := by
  have key : ∀ p, Lib.BuilderAt 60 5 B b p (Lib.byteCells l) w → Lib.BuilderAt 60 5 B b p (Lib.byteCells l) w' := by
    intro p ⟨h1, v, h2, h3, h4⟩
    exact ⟨h1, v, (hb.block b (Reg.size_of_get h2)).trans h2, ownsBelow h3 hb, h4⟩
  exact h.imp (key _) (key _)
theorem SbAt.le {B b : Nat} {l : List UInt8} {w : World} (h : SbAt B b l w) : B ≤ b ∧ b < w.heap.size := by
  rcases h with h | h
  · exact ⟨h.1, h.lt⟩
  · exact ⟨h.1, h.lt⟩
set_option maxHeartbeats 2000000 in
set_option maxRecDepth 100000 in
theorem sb_grow (B b n : Nat) (w : World) (hB : B ≤ b) (hbk : w.heap[b]? = some (.cells #[.pointer (some ⟨b, 0, none⟩), .slice none 0 0] 60 (0, 0))) (hBw : B ≤ w.heap.size) (hn : n ≤ 281474976710656) :
    Calls Tryz.prog 37 #[.pointer (some ⟨b, 0, none⟩), .int .i64 n] w fun e w' => e = .returned (.tuple #[]) ∧ (Lib.BuilderAt 60 5 B b (.pointer (some ⟨b, 0, none⟩)) [] w' ∧ Below B w w') := by
  obtain ⟨cs, hrun, hle, hmax⟩ := Lib.run_makeNoZero (P := Tryz.prog) w.drew #[3] 58 5 Tryz.bytBd n hn
  have hw : IntKind.i64.wrap (IntKind.i64.wrap 0 + (n : Int)) = n := by
    rw [IntKind.wrap_i64, IntKind.wrap_i64]
    omega
  have hcall : (callFunc 62 #[.int .i64 (n : Int)]).run Tryz.prog w.drew = .ok (.value (.slice (some ⟨w.drew.heap.size, 0, none⟩) n cs.size)) (w.drew.drew.drew.alloc (.cells cs 5)) := by
    rw [run_callFunc_extern Tryz.func62 (by kernel_rfl) (by kernel_rfl) (by kernel_rfl) (e := Extern.BytealgMakeNoZero.makeNoZero #[3] #[58]) (by kernel_rfl), hrun]
    rfl
  have c1 : w.drew.cell? ⟨b, 1, none⟩ = some (.slice none 0 0) := by
    have : w.drew.heap[b]? = _ := hbk
    rw [Lib.cell_of_heap this]; rfl
  have hlt : b < w.heap.size := by
    rcases Nat.lt_or_ge b w.heap.size with h' | h'
    · exact h'
    · simp [Array.getElem?_eq_none h'] at hbk
  have c2 : (w.alloc (.cells cs 5)).cell? ⟨b, 1, none⟩ = some (.slice none 0 0) := by
    have : (w.alloc (.cells cs 5)).heap[b]? = _ := (Lib.alloc_old w _ b hlt).trans hbk
    rw [Lib.cell_of_heap this]; rfl
  have f2 : (w.alloc (.cells cs 5)).frozen? ⟨b, 1, none⟩ = false := Lib.frozen_of_heap ((Lib.alloc_old w _ b hlt).trans hbk) 1
  have hcopy : ∀ W : World, (Builtin.copy_ #[58, 58] 3 #[.slice (some ⟨w.heap.size, 0, none⟩) 0 cs.size, .slice none 0 0]).run Tryz.prog W = .ok (goInt 0) W :=
    fun W => run_copy_none W 58 58 3 5 _ _ 0 cs.size 0 0 Tryz.bytBd (by kernel_rfl) rfl
  have hfin := Lib.grown_fresh (T := 60) (e := 5) (cs := cs) hB hbk hBw (hmax (by unfold maxLen; omega)) Tryz.neSb
  have HFX := qhid hfin
  clear hfin hw
  go_enter Tryz.func37, Tryz.ntmps37
  go_wp2
  go_region
  all_goals (go_wp2; go_end0; exact ⟨rfl, by rw [← World.setCell_alloc_past _ _ _ _ hlt]; exact HFX.out⟩)
set_option maxHeartbeats 2000000 in
set_option maxRecDepth 100000 in
theorem sb_Grow (B b n : Nat) (w : World) (hB : B ≤ b) (hbk : w.heap[b]? = some (.cells #[.pointer none, .slice none 0 0] 60 (0, 0))) (hBw : B ≤ w.heap.size) (hn : n ≤ 281474976710656) :
    Calls Tryz.prog 20 #[.pointer (some ⟨b, 0, none⟩), .int .i64 n] w fun e w' => e = .returned (.tuple #[]) ∧ (Lib.BuilderAt 60 5 B b (.pointer (some ⟨b, 0, none⟩)) [] w' ∧ Below B w w') := by
  have hbk1 : (w.setCell ⟨b, 0, none⟩ (.pointer (some ⟨b, 0, none⟩))).heap[b]? = some (.cells #[.pointer (some ⟨b, 0, none⟩), .slice none 0 0] 60 (0, 0)) := by
    simp [World.setCell, Array.getElem?_modify, hbk]
  have c1 : (w.setCell ⟨b, 0, none⟩ (.pointer (some ⟨b, 0, none⟩))).cell? ⟨b, 1, none⟩ = some (.slice none 0 0) := by rw [Lib.cell_of_heap hbk1]; rfl
  have hb1 : Below B w (w.setCell ⟨b, 0, none⟩ (.pointer (some ⟨b, 0, none⟩))) := (Below.refl B w).setCell (p := ⟨b, 0, none⟩) hB _
  have hU : Lib.BuilderAt 60 5 B b (.pointer (some ⟨b, 0, none⟩)) [] (w.setCell ⟨b, 0, none⟩ (.pointer (some ⟨b, 0, none⟩))) := ⟨hB, .slice none 0 0, hbk1, World.ownsRow_nil _ _ _ _, by simp [Value.ownBlock]⟩
  have c1' : (w.setCell ⟨b, 0, none⟩ (.pointer (some ⟨b, 0, none⟩))).drew.cell? ⟨b, 1, none⟩ = some (.slice none 0 0) := c1
  have CK := qhid (sb_check_fresh b w (by rw [Lib.cell_of_heap hbk]; rfl) (by simp [World.shape?, hbk]) (Lib.frozen_of_heap hbk 0))
  have GR := qhid (sb_grow B b n (w.setCell ⟨b, 0, none⟩ (.pointer (some ⟨b, 0, none⟩))).drew hB hbk1 (by simpa [World.setCell, World.drew, -World.drew_eq] using hBw) hn)
  have HU := qhid hU
  have HB1 := qhid hb1
  clear hU hb1 hbk1
  go_enter Tryz.func20, Tryz.ntmps20
  go_wp2_with fail
  refine CK.out.mono ?_
  rintro e w' ⟨rfl, rfl⟩
  go_wp2_with fail
  go_region
  all_goals go_wp2_with fail
  all_goals first
    | (refine GR.out.mono ?_; rintro e w' ⟨rfl, h1, h2⟩; go_wp2_with fail; go_end0; exact ⟨rfl, h1, HB1.out.drew.trans h2⟩)
    | (go_end0; exact ⟨rfl, HU.out.drew, HB1.out.drew⟩)
end
end
end Go.Proofs.YtfjepjkbflcjbaaGreatDoor
namespace Go.Proofs.YtfjepjkbflcjbaaGreatDoor
section
section
section
open Go Go.RowKit
attribute [local go_sem ↓] Go.wp_at_zero Go.wp_at_succ
/-- Blocks of cells of other types than a builder's are as they were. -/
structure KeepT (w w' : World) : Prop where
  size : w.heap.size ≤ w'.heap.size
  row : ∀ (g : Nat) (cs : Array Value) (t : TypeId) (fr : Nat × Nat), w.heap[g]? = some (.cells cs t fr) → t ≠ 5 → t ≠ 60 → w'.heap[g]? = some (.cells cs t fr)
theorem KeepT.refl (w : World) : KeepT w w := ⟨Nat.le_refl _, fun _ _ _ _ h _ _ => h⟩
theorem KeepT.trans {w w1 w2 : World} (h : KeepT w w1) (k : KeepT w1 w2) : KeepT w w2 := ⟨Nat.le_trans h.size k.size, fun g cs t fr e h1 h2 => k.row g cs t fr (h.row g cs t fr e h1 h2) h1 h2⟩
theorem KeepT.setB {w : World} {b : Nat} {cs : Array Value} {fr : Nat × Nat} (hb : w.heap[b]? = some (.cells cs 60 fr)) (i : Nat) (v : Value) : KeepT w (w.setCell ⟨b, i, none⟩ v) := by
  have s := grownBy_setCell' w b v
  refine ⟨by simp only [World.setCell, Array.size_modify]; exact Nat.le_refl _, fun g cs' t fr' e h1 h2 => ?_⟩
  have hne : b ≠ g := by
    rintro rfl
    rw [hb] at e
    injection e with e
    injection e with _ e
    exact h2 e.symm
  simp only [World.setCell, Array.getElem?_modify]
  rw [if_neg hne]
  exact e
theorem KeepT.grown {w w' : World} {B n : Nat} {v : Value} {xs : List Value} (h : w.ownsRow B 5 1 v n xs) (hg : w.grownBy w' v.ownBlock) : KeepT w w' := by
  refine ⟨hg.size, fun g cs t fr e h1 h2 => ?_⟩
  have hl := Reg.size_of_get e
  refine (hg.block g hl (fun e' => ?_)).trans e
  rcases h.2 with ⟨rfl, _⟩ | ⟨g', cap, cur, rfl, _, hh, _⟩
  · cases e'
  · injection e' with e'
    subst e'
    rw [hh] at e
    injection e with e
    injection e with _ e
    exact h1 e.symm
theorem KeepT.owns {w w' : World} {B m n : Nat} {t : TypeId} {v : Value} {xs : List Value} (h : w.ownsRow B t m v n xs) (hk : KeepT w w') (h1 : t ≠ 5) (h2 : t ≠ 60) : w'.ownsRow B t m v n xs := by
  refine ⟨h.1, ?_⟩
  rcases h.2 with h3 | ⟨g, cap, cur, e, hb, hh, r⟩
  · exact .inl h3
  · exact .inr ⟨g, cap, cur, e, hb, hk.row _ _ _ _ hh h1 h2, r⟩
theorem sb_checkK (B b : Nat) (bs : List Value) (w : World) (h : Lib.IsBuilder 60 5 B b bs w) :
    Calls Tryz.prog 36 #[.pointer (some ⟨b, 0, none⟩)] w fun e w' => e = .returned (.tuple #[]) ∧ (Lib.BuilderAt 60 5 B b (.pointer (some ⟨b, 0, none⟩)) bs w' ∧ Below B w w' ∧ KeepT w w') := by
  rcases h with h | h
  · obtain ⟨_, v, hbk, _⟩ := id h
    refine (sb_check_fresh b w h.cell0 h.shape h.frozen0).mono ?_
    rintro e w' ⟨rfl, rfl⟩
    exact ⟨rfl, h.used _, (Below.refl B w).setCell (p := ⟨b, 0, none⟩) h.1 _, KeepT.setB hbk _ _⟩
  · refine (sb_check_used b w h.cell0).mono ?_
    rintro e w' ⟨rfl, rfl⟩
    exact ⟨rfl, h, Below.refl B _, KeepT.refl _⟩
set_option maxHeartbeats 2000000 in
set_option maxRecDepth 100000 in
theorem sb_writeK (B b : Nat) (bs : List Value) (s : ByteArray) (w : World) (h : Lib.IsBuilder 60 5 B b bs w) (hlen : bs.length + s.size ≤ 140737488355328) (hBw : B ≤ w.heap.size) :
    Calls Tryz.prog 38 #[.pointer (some ⟨b, 0, none⟩), .string s] w fun e w' => e = .returned (.tuple #[.int .i64 s.size, .nilIface]) ∧ (Lib.BuilderAt 60 5 B b (.pointer (some ⟨b, 0, none⟩)) (bs ++ Lib.strCells s) w' ∧ Below B w w' ∧ KeepT w w') := by
  obtain ⟨i0, hi, hz0, hz1, hz2⟩ := info_parts Tryz.infoBd
  have CK := qhid (sb_checkK B b bs w h)
  clear h
  go_enter Tryz.func38, Tryz.ntmps38
  go_wp2_with fail
  refine CK.out.mono ?_
  rintro e w1 ⟨rfl, h1, hb1, hk1⟩
  obtain ⟨hB, v, hbk, hown, hne⟩ := h1
  have c0 : w1.cell? ⟨b, 0, none⟩ = some (.pointer (some ⟨b, 0, none⟩)) := by rw [Lib.cell_of_heap hbk]; rfl
  have c1 : w1.cell? ⟨b, 1, none⟩ = some v := by rw [Lib.cell_of_heap hbk]; rfl
  go_wp2_with (at_builtin; refine Lib.wpList_append_own_string _ rfl _ _ 58 9 rfl B 5 i0 Tryz.bytBd Tryz.strBd hi hz0 hz1 hz2 _ _ _ rfl hown s rfl ?c3 ?c4 ?c5 ?_)
  case c3 => unfold maxLen; omega
  case c4 => omega
  case c5 => have := hb1.size; omega
  intro v' w2 hown' hgrow _
  have hlt : b < w1.heap.size := by
    rcases Nat.lt_or_ge b w1.heap.size with h' | h'
    · exact h'
    · simp [Array.getElem?_eq_none h'] at hbk
  have hb2 : w2.heap[b]? = some (.cells #[.pointer (some ⟨b, 0, none⟩), v] 60 (0, 0)) := by
    rw [hgrow.block b hlt (fun e => hne e.symm)]
    exact hbk
  have d0 : w2.cell? ⟨b, 0, none⟩ = some (.pointer (some ⟨b, 0, none⟩)) := by rw [Lib.cell_of_heap hb2]; rfl
  have d1 : w2.cell? ⟨b, 1, none⟩ = some v := by rw [Lib.cell_of_heap hb2]; rfl
  have f1 : w2.frozen? ⟨b, 1, none⟩ = false := Lib.frozen_of_heap hb2 1
  obtain ⟨ao, n', cap, rfl⟩ : ∃ ao n' cap, v' = .slice ao n' cap := by
    rcases hown'.2 with ⟨hv, _⟩ | ⟨g, cap, cur, hv, _⟩
    · exact ⟨_, _, _, hv⟩
    · exact ⟨_, _, _, hv⟩
  go_wp2
  go_ret2
  refine ⟨rfl, ?_, ?_, ?_⟩
  · exact Lib.BuilderAt.put (T := 60) (e := 5) hB hb2 (bs' := bs ++ Lib.strCells s) (by simpa [Lib.strCells_length] using hown') Tryz.neSb
  · exact (hb1.grown hgrow (by have := hb1.size; omega) (fun k hk => (hown.lt k hk).1)).setCell (p := ⟨b, 1, none⟩) hB _
  · exact hk1.trans ((KeepT.grown hown hgrow).trans (KeepT.setB hb2 _ _))
/-- .. a text of numbers. -/
theorem sw_writeK {B b : Nat} {l : List UInt8} {w : World} (x : List Nat) (h : SbAt B b l w) (hlen : l.length + x.length ≤ 1099511627776) :
    Calls Tryz.prog 38 #[.pointer (some ⟨b, 0, none⟩), .string (baN x)] w fun e w' => e = .returned (.tuple #[.int .i64 (x.length : Int), .nilIface]) ∧ SbAt B b (l ++ byN x) w' ∧ Below B w w' ∧ KeepT w w' := by
  refine (sb_writeK B b _ (baN x) w h (by rw [Lib.byteCells_length, baN_size]; omega) (by have := h.le; omega)).mono fun e w' ⟨he, hW, hb, hk⟩ => ⟨by rw [he, baN_size], .inr ?_, hb, hk⟩
  rw [Lib.byteCells_append, ← strCells_baN]
  exact hW
end
end
section
section
open Go Go.RowKit
/-- A piece: a core's node, or a text. -/
structure Pc where
  c : Co
  p : Option Addr
  l : List Nat
def Pc.vals (x : Pc) : List Value := [.pointer x.p, .string (baN x.l)]
def Pc.out (x : Pc) : List Nat := coN x.c ++ x.l
structure PcAt (w : World) (x : Pc) : Prop where
  at_ : CoAt w x.c (.pointer x.p)
  one : x.c = .nil ∨ x.l = []
  fit : CoFit x.c
/-- What the pieces tell, the last first. -/
def outS : List Pc → List Nat
  | [] => []
  | x :: r => outS r ++ x.out
theorem outS_snoc (P : List Pc) (x : Pc) : outS (P ++ [x]) = x.out ++ outS P := by
  induction P with
  | nil => simp [outS]
  | cons y r ih => simp [outS, ih]
theorem outS_append (P Q : List Pc) : outS (P ++ Q) = outS Q ++ outS P := by
  induction P with
  | nil => simp [outS]
  | cons y r ih => simp [outS, ih]
def measP (P : List Pc) : Nat := (P.map fun x => 4 * coSize x.c + 1).sum
theorem measP_append (P Q : List Pc) : measP (P ++ Q) = measP P + measP Q := by simp [measP]
theorem measP_len (P : List Pc) : P.length ≤ measP P := by
  unfold measP
  induction P with
  | nil => exact Nat.le_refl _
  | cons x r ih =>
    simp only [List.map_cons, List.sum_cons, List.length_cons]
    omega
/-- A node's four pieces, as they are laid. -/
def fourP (k : Int) (s : W4) (z : Bool) (a b : Co) (pa pb : Option Addr) : List Pc := [⟨.nil, none, (frL k s z).2.2⟩, ⟨b, pb, []⟩, ⟨.nil, none, (frL k s z).2.1⟩, ⟨a, pa, []⟩]
theorem four_out (k : Int) (s : W4) (z : Bool) (a b : Co) (p pa pb : Option Addr) (P : List Pc) : outS (P ++ [⟨.node k s z a b, p, []⟩]) = (frL k s z).1 ++ outS (P ++ fourP k s z a b pa pb) := by
  rw [outS_snoc, outS_append]
  simp [fourP, outS, Pc.out, coN]
theorem four_meas (k : Int) (s : W4) (z : Bool) (a b : Co) (p pa pb : Option Addr) (P : List Pc) : measP (P ++ fourP k s z a b pa pb) + 1 = measP (P ++ [⟨.node k s z a b, p, []⟩]) := by
  rw [measP_append, measP_append]
  simp only [measP, fourP, List.map_cons, List.map_nil, List.sum_cons, List.sum_nil, coSize]
  omega
theorem four_at {w : World} {k : Int} {s : W4} {z : Bool} {a b : Co} {pa pb : Option Addr} (ha : CoAt w a (.pointer pa)) (hb : CoAt w b (.pointer pb)) (hf : CoFit (.node k s z a b)) : ∀ x ∈ fourP k s z a b pa pb, PcAt w x := by
  intro x hx
  simp only [fourP, List.mem_cons, List.not_mem_nil, or_false] at hx
  rcases hx with rfl | rfl | rfl | rfl
  · exact ⟨.nil, .inl rfl, trivial⟩
  · exact ⟨hb, .inr rfl, hf.2.2⟩
  · exact ⟨.nil, .inl rfl, trivial⟩
  · exact ⟨ha, .inr rfl, hf.2.1⟩
theorem vals_len (P : List Pc) : (P.flatMap Pc.vals).length = P.length * 2 := by
  induction P with
  | nil => rfl
  | cons s S ih => simp [Pc.vals, ih]; omega
/-- tell's memory: the builder, the stack. -/
structure TelC (w0 : World) (b : Nat) (w : World) (l : List UInt8) (P : List Pc) (v : Value) : Prop where
  bd : SbAt w0.heap.size b l w
  row : w.ownsRow w0.heap.size 87 2 v P.length (P.flatMap Pc.vals)
  be : Below w0.heap.size w0 w
theorem TelC.up {w0 w w' : World} {b : Nat} {l : List UInt8} {P : List Pc} {v : Value} (h : TelC w0 b w l P v) (hb : Below w.heap.size w w') : TelC w0 b w' l P v :=
  ⟨h.bd.up hb, ownsBelow h.row hb, h.be.trans (hb.mono h.be.size)⟩
theorem TelC.wrote {w0 w w' : World} {b : Nat} {l l' : List UInt8} {P : List Pc} {v : Value} (h : TelC w0 b w l P v) (hs : SbAt w0.heap.size b l' w') (hb : Below w0.heap.size w w') (hk : KeepT w w') : TelC w0 b w' l' P v :=
  ⟨hs, hk.owns h.row (by decide) (by decide), h.be.trans hb⟩
/-- The last piece. -/
theorem TelC.pop {w0 w : World} {b : Nat} {l : List UInt8} {P : List Pc} {x : Pc} {v : Value} (h : TelC w0 b w l (P ++ [x]) v) :
    ∃ g cap, v = .slice (some ⟨g, 0, none⟩) (P.length + 1) cap ∧ P.length + 1 ≤ cap ∧ w.cell? ⟨g, P.length * 2, none⟩ = some (.pointer x.p) ∧ w.cell? ⟨g, P.length * 2 + 1, none⟩ = some (.string (baN x.l)) ∧ g < w.heap.size ∧ TelC w0 b w l P (.slice (some ⟨g, 0, none⟩) P.length cap) := by
  have hl : (P ++ [x]).length = P.length + 1 := by simp
  rcases h.row.2 with ⟨_, h0⟩ | ⟨g, cap, cur, rfl, hb, hh, hn, hm, hs, ht⟩
  · rw [hl] at h0; omega
  · rw [hl] at hn ht
    have key : ∀ j u, ((P ++ [x]).flatMap Pc.vals)[j]? = some u → w.cell? ((⟨g, 0, none⟩ : Addr).add j) = some u := h.row.cells (g := g) rfl
    have ha : ∀ j, (⟨g, 0, none⟩ : Addr).add j = ⟨g, j, none⟩ := fun j => by unfold Addr.add; split <;> simp_all
    have e1 : (P ++ [x]).flatMap Pc.vals = P.flatMap Pc.vals ++ x.vals := by simp
    have k0 := key (P.length * 2) (.pointer x.p) (by rw [e1, List.getElem?_append_right (by rw [vals_len]; omega), vals_len, Nat.sub_self]; rfl)
    have k1 := key (P.length * 2 + 1) (.string (baN x.l)) (by rw [e1, List.getElem?_append_right (by rw [vals_len]; omega), vals_len, show P.length * 2 + 1 - P.length * 2 = 1 by omega]; rfl)
    rw [ha] at k0 k1
    refine ⟨g, cap, by rw [hl], hn, k0, k1, (Array.getElem?_eq_some_iff.1 hh).1, h.bd, ⟨vals_len P, .inr ⟨g, cap, cur, rfl, hb, hh, by omega, hm, hs, ?_⟩⟩, h.be⟩
    have : (cur.toList.take ((P.length + 1) * 2)).take (P.length * 2) = ((P ++ [x]).flatMap Pc.vals).take (P.length * 2) := by rw [ht]
    rw [List.take_take, Nat.min_eq_left (by omega)] at this
    rw [this, e1, List.take_left' (vals_len P)]
end
end
end
end Go.Proofs.YtfjepjkbflcjbaaGreatDoor
