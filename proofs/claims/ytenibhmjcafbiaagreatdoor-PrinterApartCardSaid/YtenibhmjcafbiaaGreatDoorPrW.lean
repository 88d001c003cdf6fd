/- The builder that a writer bears, in the writer's block: its methods, told. A count, told: printer.times, printer.Count. A tree, printed: the writer's group, nodes. A tree, printed: the writer's node. Print and Normal told; layer 7's example. -/
import Derived.Test.YtenibhmjcafbiaaGreatDoorOwn
import Derived.Test.YtenibhmjcafbiaaGreatDoorRd
import Derived.Lib.Strings
import Derived.Lib.Slices
import Derived.Lib.Builder
import Derived.Lib.AppendStr
import Derived.Lib.UnsafeStr
import Derived.Laws.Externs
import Derived.Laws.IdiomCopy
import Derived.Laws.BitsLemmas
import Derived.Test.YtenibhmjcafbiaaGreatDoorShelfN
import Derived.Test.YtenibhmjcafbiaaGreatDoorPrM
import Derived.Lib.ItoaNum
import Derived.Lib.ItoaMem
import Derived.Lib.ItoaLen
import Derived.Test.YtenibhmjcafbiaaGreatDoorRegionC
import Derived.Test.YtenibhmjcafbiaaGreatDoorPbH
import Derived.Test.YtenibhmjcafbiaaGreatDoorPbO
namespace Go.Proofs.YtenibhmjcafbiaaGreatDoor.Reg
open Go Go.RowKit
section
variable {ops : Array Oper}
/-- Ahead of operation n R0 holds of the world, behind it R1. -/
structure GenC (n : Nat) (R0 R1 : World → Prop) (l : Array Bool) (X : World) : Prop where
  ahead : l.getD n false = false → R0 X
  done : l.getD n false = true → R1 X
theorem GenC.not {n i : Nat} {R0 R1 : World → Prop} {l : Array Bool} {X : World} (_h : GenC n R0 R1 l X) (hcl : ClosedL ops l) (hr : reach ops 30 n i = true) (hun : l.getD i false = false) : l.getD n false = false := by
  cases e : l.getD n false with
  | false => rfl
  | true => rw [closed_reach hcl _ _ _ hr e] at hun; cases hun
theorem GenC.at {n i : Nat} {R0 R1 : World → Prop} {l : Array Bool} {X : World} (h : GenC n R0 R1 l X) (hcl : ClosedL ops l) (hr : reach ops 30 n i = true) (hun : l.getD i false = false) : R0 X :=
  h.ahead (h.not hcl hr hun)
theorem GenC.up {n i : Nat} {R0 R1 : World → Prop} {l : Array Bool} {X : World} (h : GenC n R0 R1 l X) (hi : i ≠ n) : GenC n R0 R1 (l.setIfInBounds i true) X := by
  refine ⟨fun e => ?_, fun e => ?_⟩
  · rw [getD_set_ne false hi] at e; exact h.ahead e
  · rw [getD_set_ne false hi] at e; exact h.done e
theorem GenC.step {n i : Nat} {R0 R1 : World → Prop} {l : Array Bool} {X Y : World} (h : GenC n R0 R1 l X) (hcl : ClosedL ops l) (hr : reach ops 30 n i = true) (hun : l.getD i false = false) (hi : i ≠ n) (hY : R0 Y) : GenC n R0 R1 (l.setIfInBounds i true) Y := by
  refine ⟨fun _ => hY, fun e => ?_⟩
  rw [getD_set_ne false hi, h.not hcl hr hun] at e
  cases e
theorem GenC.put {n : Nat} {R0 R1 : World → Prop} {l : Array Bool} {Y : World} (hin : n < l.size) (hR : R1 Y) : GenC n R0 R1 (l.setIfInBounds n true) Y := by
  refine ⟨fun e => ?_, fun _ => hR⟩
  rw [set_self hin] at e; cases e
theorem GenC.start {n k : Nat} {X : World} (R0 R1 : World → Prop) (h : R0 X) : GenC n R0 R1 (Array.replicate k false) X :=
  ⟨fun _ => h, fun e => by simp [Array.getD_eq_getD_getElem?, Array.getElem?_replicate] at e; split at e <;> simp_all⟩
end
end Go.Proofs.YtenibhmjcafbiaaGreatDoor.Reg
namespace Go.Proofs.YtenibhmjcafbiaaGreatDoor
section
section
open Go Go.RowKit
theorem Tryz.sizeBd : (Tryz.prog.info? 62).map (·.size) = some 2 := by kernel_rfl
theorem Tryz.liesBd : liesAt Tryz.prog (Tryz.prog).depth 64 (2 / (Tryz.prog).cellsOf 64) 0 62 1 = true := by kernel_rfl
theorem Tryz.ptrBd : Tryz.prog.underlying 59 = some (.pointer 62) := by kernel_rfl
theorem Tryz.unsBd : Tryz.prog.underlying 137 = some .unsafePointer := by kernel_rfl
theorem Tryz.bytBd : Tryz.prog.underlying 60 = some (.slice 5) := by kernel_rfl
theorem Tryz.strBd : Tryz.prog.underlying 9 = some .string := by kernel_rfl
theorem Tryz.pbyBd : Tryz.prog.underlying 106 = some (.pointer 5) := by kernel_rfl
theorem Tryz.infoBd : (Tryz.prog.info? 5).map (fun i => (i.zero, i.size, i.bytes)) = some (some (.int .u8 0), 1, 1) := by kernel_rfl
theorem Tryz.cellBd : (Tryz.prog).cellsOf 5 = 1 := by kernel_rfl
theorem Tryz.neBd : (64 : TypeId) ≠ 5 := by decide
/-- A writer in a block of its own (b, from B on), that holds these bytes. -/
abbrev WrAt (B b : Nat) (l : List UInt8) (w : World) : Prop := Lib.IsBuilder 64 5 B b (Lib.byteCells l) w
set_option maxHeartbeats 1000000 in
set_option maxRecDepth 100000 in
theorem bd_check_used (b : Nat) (w : World) (h0 : w.cell? ⟨b, 0, none⟩ = some (.pointer (some ⟨b, 0, none⟩))) :
    Calls Tryz.prog 69 #[.pointer (some ⟨b, 0, none⟩)] w fun e w' => e = .returned (.tuple #[]) ∧ w' = w := by
  obtain ⟨j, hj, _⟩ := Option.map_eq_some_iff.1 Tryz.sizeBd
  go_enter Tryz.func69, Tryz.ntmps69
  go_wp2
  rw [Lib.run_neq_ptr_same w _ Tryz.ptrBd hj]
  go_wp2
  go_end0
  exact ⟨rfl, rfl⟩
set_option maxHeartbeats 1000000 in
set_option maxRecDepth 100000 in
theorem bd_check_fresh (b : Nat) (w : World) (h0 : w.cell? ⟨b, 0, none⟩ = some (.pointer none)) (hsh : w.shape? b = some (64, 2)) (hfz : w.frozen? ⟨b, 0, none⟩ = false) :
    Calls Tryz.prog 69 #[.pointer (some ⟨b, 0, none⟩)] w fun e w' => e = .returned (.tuple #[]) ∧ w' = w.setCell ⟨b, 0, none⟩ (.pointer (some ⟨b, 0, none⟩)) := by
  obtain ⟨j, hj, hjs⟩ := Option.map_eq_some_iff.1 Tryz.sizeBd
  go_enter Tryz.func69, Tryz.ntmps69
  go_wp2
  rw [Lib.run_to_unsafe w ⟨b, 0, none⟩ Tryz.ptrBd Tryz.unsBd hj (by rw [hjs]; decide) hsh (Nat.zero_lt_succ 1)]
  simp only [Result.andThen]
  rw [Oper.upon_value]
  go_wp2
  rw [run_callFunc_extern Tryz.func89 (by kernel_rfl) (by kernel_rfl) (by kernel_rfl) (e := Extern.AbiNoEscape.same) (by kernel_rfl)]
  rw [Lib.run_noEscape]
  simp only [Result.andThen]
  rw [Oper.upon_value]
  go_wp2
  rw [Lib.run_from_unsafe w ⟨b, 0, none⟩ Tryz.unsBd Tryz.ptrBd hj hsh Tryz.liesBd]
  simp only [Result.andThen]
  rw [Oper.upon_value]
  go_wp2
  go_end0
  exact ⟨rfl, rfl⟩
theorem bd_check (B b : Nat) (bs : List Value) (w : World) (h : Lib.IsBuilder 64 5 B b bs w) :
    Calls Tryz.prog 69 #[.pointer (some ⟨b, 0, none⟩)] w fun e w' => e = .returned (.tuple #[]) ∧ (Lib.BuilderAt 64 5 B b (.pointer (some ⟨b, 0, none⟩)) bs w' ∧ Below B w w') := by
  rcases h with h | h
  · refine (bd_check_fresh b w h.cell0 h.shape h.frozen0).mono ?_
    rintro e w' ⟨rfl, rfl⟩
    exact ⟨rfl, h.used _, (Below.refl B w).setCell (p := ⟨b, 0, none⟩) h.1 _⟩
  · refine (bd_check_used b w h.cell0).mono ?_
    rintro e w' ⟨rfl, rfl⟩
    exact ⟨rfl, h, Below.refl B _⟩
set_option maxHeartbeats 1000000 in
set_option maxRecDepth 100000 in
theorem bd_len (B b : Nat) (bs : List Value) (w : World) (h : Lib.IsBuilder 64 5 B b bs w) :
    Calls Tryz.prog 26 #[.pointer (some ⟨b, 0, none⟩)] w fun e w' => e = .returned (.int .i64 bs.length) ∧ w' = w := by
  obtain ⟨p, hB, v, hbk, hown, hne⟩ : ∃ p, Lib.BuilderAt 64 5 B b p bs w := by
    rcases h with h | h
    · exact ⟨_, h⟩
    · exact ⟨_, h⟩
  obtain ⟨ao, cap, rfl⟩ : ∃ ao cap, v = .slice ao bs.length cap := by
    rcases hown.2 with ⟨hv, h0⟩ | ⟨g, cap, cur, hv, _⟩
    · exact ⟨none, 0, by rw [hv, h0]⟩
    · exact ⟨_, _, hv⟩
  have c1 : w.cell? ⟨b, 1, none⟩ = some (.slice ao bs.length cap) := by rw [Lib.cell_of_heap hbk]; rfl
  clear hbk hown hne h
  go_enter Tryz.func26, Tryz.ntmps26
  go_wp2
  go_ret
  exact ⟨rfl, rfl⟩
set_option maxHeartbeats 2000000 in
set_option maxRecDepth 100000 in
theorem bd_write (B b : Nat) (bs : List Value) (s : ByteArray) (w : World) (h : Lib.IsBuilder 64 5 B b bs w) (hlen : bs.length + s.size ≤ 140737488355328) (hBw : B ≤ w.heap.size) :
    Calls Tryz.prog 51 #[.pointer (some ⟨b, 0, none⟩), .string s] w fun e w' => e = .returned (.tuple #[.int .i64 s.size, .nilIface]) ∧ (Lib.BuilderAt 64 5 B b (.pointer (some ⟨b, 0, none⟩)) (bs ++ Lib.strCells s) w' ∧ Below B w w') := by
  obtain ⟨i0, hi, hz0, hz1, hz2⟩ := info_parts Tryz.infoBd
  have CK := qhid (bd_check B b bs w h)
  clear h
  go_enter Tryz.func51, Tryz.ntmps51
  go_wp2_with fail
  refine CK.out.mono ?_
  rintro e w1 ⟨rfl, h1, hb1⟩
  obtain ⟨hB, v, hbk, hown, hne⟩ := h1
  have c0 : w1.cell? ⟨b, 0, none⟩ = some (.pointer (some ⟨b, 0, none⟩)) := by rw [Lib.cell_of_heap hbk]; rfl
  have c1 : w1.cell? ⟨b, 1, none⟩ = some v := by rw [Lib.cell_of_heap hbk]; rfl
  go_wp2_with (at_builtin; refine Lib.wpList_append_own_string _ rfl _ _ 60 9 rfl B 5 i0 Tryz.bytBd Tryz.strBd hi hz0 hz1 hz2 _ _ _ rfl hown s rfl ?c3 ?c4 ?c5 ?_)
  case c3 => unfold maxLen; omega
  case c4 => omega
  case c5 => have := hb1.size; omega
  intro v' w2 hown' hgrow _
  have hlt : b < w1.heap.size := by
    rcases Nat.lt_or_ge b w1.heap.size with h' | h'
    · exact h'
    · simp [Array.getElem?_eq_none h'] at hbk
  have hb2 : w2.heap[b]? = some (.cells #[.pointer (some ⟨b, 0, none⟩), v] 64 (0, 0)) := by
    rw [hgrow.block b hlt (fun e => hne e.symm)]
    exact hbk
  have d0 : w2.cell? ⟨b, 0, none⟩ = some (.pointer (some ⟨b, 0, none⟩)) := by rw [Lib.cell_of_heap hb2]; rfl
  have d1 : w2.cell? ⟨b, 1, none⟩ = some v := by rw [Lib.cell_of_heap hb2]; rfl
  have f1 : w2.frozen? ⟨b, 1, none⟩ = false := Lib.frozen_of_heap hb2 1
  obtain ⟨ao, n', cap, rfl⟩ : ∃ ao n' cap, v' = .slice ao n' cap := by
    rcases hown'.2 with ⟨hv, _⟩ | ⟨g, cap, cur, hv, _⟩
    · exact ⟨_, _, _, hv⟩
    · exact ⟨_, _, _, hv⟩
  go_wp2
  go_ret2
  refine ⟨rfl, ?_, ?_⟩
  · exact Lib.BuilderAt.put (T := 64) (e := 5) hB hb2 (bs' := bs ++ Lib.strCells s) (by simpa [Lib.strCells_length] using hown') Tryz.neBd
  · exact (hb1.grown hgrow (by have := hb1.size; omega) (fun k hk => (hown.lt k hk).1)).setCell (p := ⟨b, 1, none⟩) hB _
set_option maxHeartbeats 2000000 in
set_option maxRecDepth 100000 in
theorem bd_string_some (B b : Nat) (l : List UInt8) (w : World) (h : WrAt B b l w) (h0 : l ≠ []) :
    Calls Tryz.prog 27 #[.pointer (some ⟨b, 0, none⟩)] w fun e w' => e = .returned (.string ⟨l.toArray⟩) ∧ Below B w w' := by
  obtain ⟨p, hB, v, hbk, hown, hne⟩ : ∃ p, Lib.BuilderAt 64 5 B b p (Lib.byteCells l) w := by
    rcases h with h | h
    · exact ⟨_, h⟩
    · exact ⟨_, h⟩
  have hl0 : l.length ≠ 0 := by simpa using h0
  rw [Lib.byteCells_length] at hown
  obtain ⟨g, cap, cur, rfl, hbg, hg, hnc, hcm, hcs, htake⟩ : ∃ g cap cur, v = .slice (some ⟨g, 0, none⟩) l.length cap ∧ B ≤ g ∧ w.heap[g]? = some (.cells cur 5 (0, 0)) ∧ l.length ≤ cap ∧ cap ≤ maxLen ∧ cur.size = cap * 1 ∧ cur.toList.take (l.length * 1) = Lib.byteCells l := by
    rcases hown.2 with ⟨_, hz⟩ | ⟨g, cap, cur, hv, r⟩
    · exact absurd hz hl0
    · exact ⟨g, cap, cur, hv, r⟩
  have c1 : w.drew.cell? ⟨b, 1, none⟩ = some (.slice (some ⟨g, 0, none⟩) l.length cap) := by
    have : w.drew.heap[b]? = some (.cells #[p, .slice (some ⟨g, 0, none⟩) l.length cap] 64 (0, 0)) := hbk
    rw [Lib.cell_of_heap this]; rfl
  have hSD : (Builtin.unsafeSliceData_ #[60] 106 #[.slice (some ⟨g, 0, none⟩) l.length cap]).run Tryz.prog w.drew = .ok (.pointer (some ⟨g, 0, none⟩)) w.drew :=
    Lib.run_unsafeSliceData_row _ _ _ _ _ _ (by omega)
  have hUS : (Builtin.unsafeString_ #[106, 3] 9 #[.pointer (some ⟨g, 0, none⟩), .int .i64 l.length]).run Tryz.prog w.drew = .ok (.string ⟨l.toArray⟩) (w.drew.freeze ⟨g, 0, none⟩ l.length) := by
    refine Lib.run_unsafeString_row w.drew 106 3 9 5 Tryz.pbyBd Tryz.cellBd g cur.size (by have hg' : w.drew.heap[g]? = some (.cells cur 5 (0, 0)) := hg; simp [World.shape?, hg']) l h0 (by omega) (by unfold maxLen at hcm; omega) ?_
    intro j x hx
    exact hown.cells (g := g) rfl j (.int .u8 x.toNat) (by simp [Lib.byteCells, hx])
  clear h hown hne htake hcs hcm hg hbk
  go_enter Tryz.func27, Tryz.ntmps27
  go_wp2
  go_region
  all_goals (go_wp2; go_ret; exact ⟨rfl, Lib.below_freeze (Below.drew (Below.refl B w)) (p := ⟨g, 0, none⟩) hbg _⟩)
theorem bd_str0 (W : World) (q : Option Addr) : (Builtin.unsafeString_ #[106, 3] 9 #[.pointer q, .int .i64 0]).run Tryz.prog W = .ok (.string .empty) W := Lib.run_unsafeString_none W _ _ _ q
set_option maxHeartbeats 2000000 in
set_option maxRecDepth 100000 in
theorem bd_string_nil (B b : Nat) (p : Value) (w : World) (hbk : w.heap[b]? = some (.cells #[p, .slice none 0 0] 64 (0, 0))) :
    Calls Tryz.prog 27 #[.pointer (some ⟨b, 0, none⟩)] w fun e w' => e = .returned (.string ⟨#[]⟩) ∧ Below B w w' := by
  have hUS := bd_str0
  have c1 : w.drew.cell? ⟨b, 1, none⟩ = some (.slice none 0 0) := by
    have : w.drew.heap[b]? = some (.cells #[p, .slice none 0 0] 64 (0, 0)) := hbk
    rw [Lib.cell_of_heap this]; rfl
  have hSD : (Builtin.unsafeSliceData_ #[60] 106 #[.slice none 0 0]).run Tryz.prog w.drew = .ok (.pointer none) w.drew := rfl
  go_enter Tryz.func27, Tryz.ntmps27
  go_wp2
  go_region
  all_goals (go_wp2; go_ret; exact ⟨rfl, Below.drew (Below.refl B w)⟩)
set_option maxHeartbeats 2000000 in
set_option maxRecDepth 100000 in
theorem bd_string_noroom (B b g : Nat) (p : Value) (cur : Array Value) (w : World) (hBw : B ≤ w.heap.size) (hbk : w.heap[b]? = some (.cells #[p, .slice (some ⟨g, 0, none⟩) 0 0] 64 (0, 0))) (hg : w.heap[g]? = some (.cells cur 5 (0, 0))) :
    Calls Tryz.prog 27 #[.pointer (some ⟨b, 0, none⟩)] w fun e w' => e = .returned (.string ⟨#[]⟩) ∧ Below B w w' := by
  have hUS := bd_str0
  have hlt : b < w.heap.size := by
    rcases Nat.lt_or_ge b w.heap.size with h' | h'
    · exact h'
    · simp [Array.getElem?_eq_none h'] at hbk
  have c1 : w.drew.cell? ⟨b, 1, none⟩ = some (.slice (some ⟨g, 0, none⟩) 0 0) := by
    have : w.drew.heap[b]? = some (.cells #[p, .slice (some ⟨g, 0, none⟩) 0 0] 64 (0, 0)) := hbk
    rw [Lib.cell_of_heap this]; rfl
  have hSD : (Builtin.unsafeSliceData_ #[60] 106 #[.slice (some ⟨g, 0, none⟩) 0 0]).run Tryz.prog w.drew = .ok (.pointer (some ⟨w.drew.heap.size, 0, none⟩)) (w.drew.alloc (.view ⟨g, 0, none⟩ 5)) :=
    Lib.run_unsafeSliceData_zero w.drew _ _ 5 Tryz.pbyBd ⟨g, 0, none⟩ 0 (5, cur.size) (by have hg' : w.drew.heap[g]? = some (.cells cur 5 (0, 0)) := hg; simp [World.shape?, hg'])
  have c2 : (w.drew.alloc (.view ⟨g, 0, none⟩ 5)).cell? ⟨b, 1, none⟩ = some (.slice (some ⟨g, 0, none⟩) 0 0) := by
    have : (w.drew.alloc (.view ⟨g, 0, none⟩ 5)).heap[b]? = _ := (Lib.alloc_old w.drew _ b hlt).trans hbk
    rw [Lib.cell_of_heap this]; rfl
  have c3 : (w.alloc (.view ⟨g, 0, none⟩ 5)).drew.cell? ⟨b, 1, none⟩ = some (.slice (some ⟨g, 0, none⟩) 0 0) := c2
  have c0 : w.cell? ⟨b, 1, none⟩ = some (.slice (some ⟨g, 0, none⟩) 0 0) := c1
  go_enter Tryz.func27, Tryz.ntmps27
  go_wp2
  go_region
  all_goals (go_wp2; go_ret; exact ⟨rfl, (Below.drew (Below.refl B w)).alloc hBw _⟩)
set_option maxHeartbeats 2000000 in
set_option maxRecDepth 100000 in
theorem bd_string_room (B b g cap : Nat) (p : Value) (w : World) (hc0 : cap ≠ 0) (hbk : w.heap[b]? = some (.cells #[p, .slice (some ⟨g, 0, none⟩) 0 cap] 64 (0, 0))) :
    Calls Tryz.prog 27 #[.pointer (some ⟨b, 0, none⟩)] w fun e w' => e = .returned (.string ⟨#[]⟩) ∧ Below B w w' := by
  have hUS := bd_str0
  have c1 : w.drew.cell? ⟨b, 1, none⟩ = some (.slice (some ⟨g, 0, none⟩) 0 cap) := by
    have : w.drew.heap[b]? = some (.cells #[p, .slice (some ⟨g, 0, none⟩) 0 cap] 64 (0, 0)) := hbk
    rw [Lib.cell_of_heap this]; rfl
  have hSD : (Builtin.unsafeSliceData_ #[60] 106 #[.slice (some ⟨g, 0, none⟩) 0 cap]).run Tryz.prog w.drew = .ok (.pointer (some ⟨g, 0, none⟩)) w.drew :=
    Lib.run_unsafeSliceData_row _ _ _ _ _ _ hc0
  clear hc0
  go_enter Tryz.func27, Tryz.ntmps27
  go_wp2
  go_region
  all_goals (go_wp2; go_ret; exact ⟨rfl, Below.drew (Below.refl B w)⟩)
theorem bd_string (B b : Nat) (l : List UInt8) (w : World) (h : WrAt B b l w) (hBw : B ≤ w.heap.size) :
    Calls Tryz.prog 27 #[.pointer (some ⟨b, 0, none⟩)] w fun e w' => e = .returned (.string ⟨l.toArray⟩) ∧ Below B w w' := by
  cases l with
  | cons x r => exact bd_string_some B b (x :: r) w h (by simp)
  | nil =>
    obtain ⟨p, hB, v, hbk, hown, hne⟩ : ∃ p, Lib.BuilderAt 64 5 B b p [] w := by
      rcases h with h | h
      · exact ⟨_, h⟩
      · exact ⟨_, h⟩
    rcases hown.2 with ⟨rfl, _⟩ | ⟨g, cap, cur, rfl, hbg, hg, _, _, _, _⟩
    · exact bd_string_nil B b p w hbk
    · by_cases hc0 : cap = 0
      · subst hc0
        exact bd_string_noroom B b g p cur w hBw hbk hg
      · exact bd_string_room B b g cap p w hc0 hbk
end
end
section
section
open Go Go.RowKit
attribute [local go_sem ↓] Go.wp_at_zero Go.wp_at_succ
/-- A machine's number. -/
def I64 (n : Int) : Prop := -9223372036854775808 ≤ n ∧ n ≤ 9223372036854775807
theorem I64.small {n : Int} (h0 : -1000000 ≤ n) (h1 : n ≤ 1000000) : I64 n := ⟨by omega, by omega⟩
/-- The table of powers of ten lies there. -/
def TabP (w : World) : Prop := Lib.TabIs Tryz.prog w "internal/strconv.uint64pow10" .u64 Lib.pow10Tab
theorem gPow : Tryz.prog.globalNamed "internal/strconv.uint64pow10" = some 2 := by kernel_rfl
theorem TabP.lt {w : World} (h : TabP w) : 2 < w.heap.size := by
  unfold TabP Lib.TabIs World.var? at h
  rw [gPow] at h
  simp only [Option.bind_some] at h
  rcases Nat.lt_or_ge 2 w.heap.size with h' | h'
  · exact h'
  · rw [Array.getElem?_eq_none h'] at h; cases h
theorem TabP.below {w w' : World} {B : Nat} (h : TabP w) (hb : Below B w w') (hB : 2 < B) : TabP w' := by
  unfold TabP Lib.TabIs World.var? at h ⊢
  rw [gPow] at h ⊢
  simp only [Option.bind_some] at h ⊢
  rw [hb.block _ hB]
  exact h
theorem TabP.up {w w' : World} (h : TabP w) (hb : Below w.heap.size w w') : TabP w' := h.below hb h.lt
theorem below_growP (w : World) (k : Nat) (os : Array Obj) : Below w.heap.size w (Sort.grow (w.drewN k) os) := by
  refine ⟨rfl, rfl, rfl, ?_, fun i hi => ?_⟩
  · show w.heap.size ≤ (w.heap ++ os).size
    rw [Array.size_append]; omega
  · show (w.heap ++ os)[i]? = w.heap[i]?
    rw [Array.getElem?_append_left hi]
/-- A number's word. -/
def itS (n : Int) : ByteArray := ⟨(Lib.itoa n).toArray⟩
def itN (n : Int) : List Nat := (Lib.itoa n).map UInt8.toNat
theorem itS_eq (n : Int) : itS n = baN (itN n) := by
  unfold itS itN baN
  rw [List.map_map]
  congr 2
  have : (Nat.toUInt8 ∘ UInt8.toNat) = id := by funext x; simp
  rw [this, List.map_id]
theorem itS_size {n : Int} (h : I64 n) : (itS n).size ≤ 21 := by
  have := Lib.itoa_length_le n h.1 h.2
  show (Lib.itoa n).toArray.size ≤ 21
  simpa using this
theorem itoa_at (n : Int) (h : I64 n) (w : World) (hT : TabP w) :
    Calls Tryz.prog 59 #[.int .i64 n] w fun e w' => e = .returned (.string (itS n)) ∧ Below w.heap.size w w' :=
  (Tryz.strconv_Itoa n h.1 h.2 w hT).mono fun e w' ⟨he, k, os, hw⟩ => ⟨he, by rw [hw]; exact below_growP w k os⟩
/-- A count's numbers, told. -/
def timesS (x0 x1 y0 y1 z : Bool) (sl sh : ByteArray) : ByteArray :=
  if x0 && y0 then ⟨#[42]⟩ else if x1 && y0 then ⟨#[43]⟩ else if x0 && y1 then ⟨#[63]⟩ else if y0 then ⟨#[123]⟩ ++ sl ++ ⟨#[44, 125]⟩ else if z then ⟨#[123]⟩ ++ sl ++ ⟨#[125]⟩ else ⟨#[123]⟩ ++ sl ++ ⟨#[44]⟩ ++ sh ++ ⟨#[125]⟩
def timesN (lo hi : Int) : List Nat :=
  if lo == 0 && hi == -1 then [42] else if lo == 1 && hi == -1 then [43] else if lo == 0 && hi == 1 then [63] else if hi == -1 then 123 :: (itN lo ++ [44, 125]) else if lo == hi then 123 :: (itN lo ++ [125]) else 123 :: (itN lo ++ 44 :: (itN hi ++ [125]))
theorem times_eq (lo hi : Int) : timesS (lo == 0) (lo == 1) (hi == -1) (hi == 1) (lo == hi) (itS lo) (itS hi) = baN (timesN lo hi) := by
  have ap : ∀ l m : List Nat, baN l ++ baN m = baN (l ++ m) := fun l m => (baN_append l m).symm
  unfold timesS timesN
  rw [itS_eq, itS_eq, show (⟨#[42]⟩ : ByteArray) = baN [42] from rfl, show (⟨#[43]⟩ : ByteArray) = baN [43] from rfl, show (⟨#[63]⟩ : ByteArray) = baN [63] from rfl, show (⟨#[123]⟩ : ByteArray) = baN [123] from rfl, show (⟨#[44, 125]⟩ : ByteArray) = baN [44, 125] from rfl, show (⟨#[44]⟩ : ByteArray) = baN [44] from rfl, show (⟨#[125]⟩ : ByteArray) = baN [125] from rfl]
  simp only [ap, List.cons_append, List.nil_append, List.append_assoc]
  repeat' split
  all_goals rfl
set_option maxHeartbeats 2000000 in
set_option maxRecDepth 100000 in
theorem times_amf (lo hi : Int) (sl sh : ByteArray) (h0 : (lo == 0) = true) (h1 : (lo == 1) = false) (h2 : (hi == -1) = true) (h3 : (hi == 1) = false) (h4 : (lo == hi) = false) (_s1 : sl.size ≤ 21) (_s2 : sh.size ≤ 21)
    (L : ∀ W, TabP W → Calls Tryz.prog 59 #[.int .i64 lo] W fun e w' => e = .returned (.string sl) ∧ Below W.heap.size W w') (H : ∀ W, TabP W → Calls Tryz.prog 59 #[.int .i64 hi] W fun e w' => e = .returned (.string sh) ∧ Below W.heap.size W w') (w : World) (hT : TabP w) :
    Calls Tryz.prog 41 #[.int .i64 lo, .int .i64 hi] w fun e w' => e = .returned (.string (timesS true false true false false sl sh)) ∧ Below w.heap.size w w' := by
  have HL := qhid L
  have HH := qhid H
  have HT := qhid hT
  clear L H hT
  obtain rfl : lo = 0 := by simpa using h0
  obtain rfl : hi = -1 := by simpa using h2
  go_enter Tryz.func41, Tryz.ntmps41
  go_wp2_with fail
  go_ret
  exact ⟨rfl, Below.refl _ _⟩
set_option maxHeartbeats 2000000 in
set_option maxRecDepth 100000 in
theorem times_abf (lo hi : Int) (sl sh : ByteArray) (h0 : (lo == 0) = true) (h1 : (lo == 1) = false) (h2 : (hi == -1) = false) (h3 : (hi == 1) = true) (h4 : (lo == hi) = false) (_s1 : sl.size ≤ 21) (_s2 : sh.size ≤ 21)
    (L : ∀ W, TabP W → Calls Tryz.prog 59 #[.int .i64 lo] W fun e w' => e = .returned (.string sl) ∧ Below W.heap.size W w') (H : ∀ W, TabP W → Calls Tryz.prog 59 #[.int .i64 hi] W fun e w' => e = .returned (.string sh) ∧ Below W.heap.size W w') (w : World) (hT : TabP w) :
    Calls Tryz.prog 41 #[.int .i64 lo, .int .i64 hi] w fun e w' => e = .returned (.string (timesS true false false true false sl sh)) ∧ Below w.heap.size w w' := by
  have HL := qhid L
  have HH := qhid H
  have HT := qhid hT
  clear L H hT
  obtain rfl : lo = 0 := by simpa using h0
  obtain rfl : hi = 1 := by simpa using h3
  go_enter Tryz.func41, Tryz.ntmps41
  go_wp2_with fail
  go_ret
  exact ⟨rfl, Below.refl _ _⟩
set_option maxHeartbeats 2000000 in
set_option maxRecDepth 100000 in
theorem times_aof (lo hi : Int) (sl sh : ByteArray) (h0 : (lo == 0) = true) (h1 : (lo == 1) = false) (h2 : (hi == -1) = false) (h3 : (hi == 1) = false) (h4 : (lo == hi) = false) (_s1 : sl.size ≤ 21) (_s2 : sh.size ≤ 21)
    (L : ∀ W, TabP W → Calls Tryz.prog 59 #[.int .i64 lo] W fun e w' => e = .returned (.string sl) ∧ Below W.heap.size W w') (H : ∀ W, TabP W → Calls Tryz.prog 59 #[.int .i64 hi] W fun e w' => e = .returned (.string sh) ∧ Below W.heap.size W w') (w : World) (hT : TabP w) :
    Calls Tryz.prog 41 #[.int .i64 lo, .int .i64 hi] w fun e w' => e = .returned (.string (timesS true false false false false sl sh)) ∧ Below w.heap.size w w' := by
  have HL := qhid L
  have HH := qhid H
  have HT := qhid hT
  clear L H hT
  obtain rfl : lo = 0 := by simpa using h0
  go_enter Tryz.func41, Tryz.ntmps41
  go_wp2_with fail
  refine (HL.out w HT.out).mono ?_
  rintro e w1 ⟨rfl, h5⟩
  have H5 := qhid h5
  clear h5
  go_wp2_with fail
  refine (HH.out w1 (HT.out.up H5.out)).mono ?_
  rintro e w2 ⟨rfl, h6⟩
  have H6 := qhid (H5.out.trans (h6.mono H5.out.size))
  clear h6
  go_wp2_with fail
  go_ret
  exact ⟨rfl, H6.out⟩
set_option maxHeartbeats 2000000 in
set_option maxRecDepth 100000 in
theorem times_aot (lo hi : Int) (sl sh : ByteArray) (h0 : (lo == 0) = true) (h1 : (lo == 1) = false) (h2 : (hi == -1) = false) (h3 : (hi == 1) = false) (h4 : (lo == hi) = true) (_s1 : sl.size ≤ 21) (_s2 : sh.size ≤ 21)
    (L : ∀ W, TabP W → Calls Tryz.prog 59 #[.int .i64 lo] W fun e w' => e = .returned (.string sl) ∧ Below W.heap.size W w') (H : ∀ W, TabP W → Calls Tryz.prog 59 #[.int .i64 hi] W fun e w' => e = .returned (.string sh) ∧ Below W.heap.size W w') (w : World) (hT : TabP w) :
    Calls Tryz.prog 41 #[.int .i64 lo, .int .i64 hi] w fun e w' => e = .returned (.string (timesS true false false false true sl sh)) ∧ Below w.heap.size w w' := by
  have HL := qhid L
  have HH := qhid H
  have HT := qhid hT
  clear L H hT
  obtain rfl : lo = 0 := by simpa using h0
  obtain rfl : 0 = hi := by simpa using h4
  go_enter Tryz.func41, Tryz.ntmps41
  go_wp2_with fail
  refine (HL.out w HT.out).mono ?_
  rintro e w1 ⟨rfl, h5⟩
  have H5 := qhid h5
  clear h5
  go_wp2_with fail
  go_ret
  exact ⟨rfl, H5.out⟩
set_option maxHeartbeats 2000000 in
set_option maxRecDepth 100000 in
theorem times_bmf (lo hi : Int) (sl sh : ByteArray) (h0 : (lo == 0) = false) (h1 : (lo == 1) = true) (h2 : (hi == -1) = true) (h3 : (hi == 1) = false) (h4 : (lo == hi) = false) (_s1 : sl.size ≤ 21) (_s2 : sh.size ≤ 21)
    (L : ∀ W, TabP W → Calls Tryz.prog 59 #[.int .i64 lo] W fun e w' => e = .returned (.string sl) ∧ Below W.heap.size W w') (H : ∀ W, TabP W → Calls Tryz.prog 59 #[.int .i64 hi] W fun e w' => e = .returned (.string sh) ∧ Below W.heap.size W w') (w : World) (hT : TabP w) :
    Calls Tryz.prog 41 #[.int .i64 lo, .int .i64 hi] w fun e w' => e = .returned (.string (timesS false true true false false sl sh)) ∧ Below w.heap.size w w' := by
  have HL := qhid L
  have HH := qhid H
  have HT := qhid hT
  clear L H hT
  obtain rfl : lo = 1 := by simpa using h1
  obtain rfl : hi = -1 := by simpa using h2
  go_enter Tryz.func41, Tryz.ntmps41
  go_wp2_with fail
  go_ret
  exact ⟨rfl, Below.refl _ _⟩
set_option maxHeartbeats 2000000 in
set_option maxRecDepth 100000 in
theorem times_bbt (lo hi : Int) (sl sh : ByteArray) (h0 : (lo == 0) = false) (h1 : (lo == 1) = true) (h2 : (hi == -1) = false) (h3 : (hi == 1) = true) (h4 : (lo == hi) = true) (_s1 : sl.size ≤ 21) (_s2 : sh.size ≤ 21)
    (L : ∀ W, TabP W → Calls Tryz.prog 59 #[.int .i64 lo] W fun e w' => e = .returned (.string sl) ∧ Below W.heap.size W w') (H : ∀ W, TabP W → Calls Tryz.prog 59 #[.int .i64 hi] W fun e w' => e = .returned (.string sh) ∧ Below W.heap.size W w') (w : World) (hT : TabP w) :
    Calls Tryz.prog 41 #[.int .i64 lo, .int .i64 hi] w fun e w' => e = .returned (.string (timesS false true false true true sl sh)) ∧ Below w.heap.size w w' := by
  have HL := qhid L
  have HH := qhid H
  have HT := qhid hT
  clear L H hT
  obtain rfl : lo = 1 := by simpa using h1
  obtain rfl : hi = 1 := by simpa using h3
  go_enter Tryz.func41, Tryz.ntmps41
  go_wp2_with fail
  refine (HL.out w HT.out).mono ?_
  rintro e w1 ⟨rfl, h5⟩
  have H5 := qhid h5
  clear h5
  go_wp2_with fail
  go_ret
  exact ⟨rfl, H5.out⟩
set_option maxHeartbeats 2000000 in
set_option maxRecDepth 100000 in
theorem times_bof (lo hi : Int) (sl sh : ByteArray) (h0 : (lo == 0) = false) (h1 : (lo == 1) = true) (h2 : (hi == -1) = false) (_h3 : (hi == 1) = false) (h4 : (lo == hi) = false) (_s1 : sl.size ≤ 21) (_s2 : sh.size ≤ 21)
    (L : ∀ W, TabP W → Calls Tryz.prog 59 #[.int .i64 lo] W fun e w' => e = .returned (.string sl) ∧ Below W.heap.size W w') (H : ∀ W, TabP W → Calls Tryz.prog 59 #[.int .i64 hi] W fun e w' => e = .returned (.string sh) ∧ Below W.heap.size W w') (w : World) (hT : TabP w) :
    Calls Tryz.prog 41 #[.int .i64 lo, .int .i64 hi] w fun e w' => e = .returned (.string (timesS false true false false false sl sh)) ∧ Below w.heap.size w w' := by
  have HL := qhid L
  have HH := qhid H
  have HT := qhid hT
  clear L H hT
  obtain rfl : lo = 1 := by simpa using h1
  go_enter Tryz.func41, Tryz.ntmps41
  go_wp2_with fail
  refine (HL.out w HT.out).mono ?_
  rintro e w1 ⟨rfl, h5⟩
  have H5 := qhid h5
  clear h5
  go_wp2_with fail
  refine (HH.out w1 (HT.out.up H5.out)).mono ?_
  rintro e w2 ⟨rfl, h6⟩
  have H6 := qhid (H5.out.trans (h6.mono H5.out.size))
  clear h6
  go_wp2_with fail
  go_ret
  exact ⟨rfl, H6.out⟩
set_option maxHeartbeats 2000000 in
set_option maxRecDepth 100000 in
theorem times_omf (lo hi : Int) (sl sh : ByteArray) (h0 : (lo == 0) = false) (h1 : (lo == 1) = false) (h2 : (hi == -1) = true) (h3 : (hi == 1) = false) (h4 : (lo == hi) = false) (_s1 : sl.size ≤ 21) (_s2 : sh.size ≤ 21)
    (L : ∀ W, TabP W → Calls Tryz.prog 59 #[.int .i64 lo] W fun e w' => e = .returned (.string sl) ∧ Below W.heap.size W w') (H : ∀ W, TabP W → Calls Tryz.prog 59 #[.int .i64 hi] W fun e w' => e = .returned (.string sh) ∧ Below W.heap.size W w') (w : World) (hT : TabP w) :
    Calls Tryz.prog 41 #[.int .i64 lo, .int .i64 hi] w fun e w' => e = .returned (.string (timesS false false true false false sl sh)) ∧ Below w.heap.size w w' := by
  have HL := qhid L
  have HH := qhid H
  have HT := qhid hT
  clear L H hT
  obtain rfl : hi = -1 := by simpa using h2
  go_enter Tryz.func41, Tryz.ntmps41
  go_wp2_with fail
  refine (HL.out w HT.out).mono ?_
  rintro e w1 ⟨rfl, h5⟩
  have H5 := qhid h5
  clear h5
  go_wp2_with fail
  go_ret
  exact ⟨rfl, H5.out⟩
set_option maxHeartbeats 2000000 in
set_option maxRecDepth 100000 in
theorem times_omt (lo hi : Int) (sl sh : ByteArray) (h0 : (lo == 0) = false) (h1 : (lo == 1) = false) (h2 : (hi == -1) = true) (h3 : (hi == 1) = false) (h4 : (lo == hi) = true) (_s1 : sl.size ≤ 21) (_s2 : sh.size ≤ 21)
    (L : ∀ W, TabP W → Calls Tryz.prog 59 #[.int .i64 lo] W fun e w' => e = .returned (.string sl) ∧ Below W.heap.size W w') (H : ∀ W, TabP W → Calls Tryz.prog 59 #[.int .i64 hi] W fun e w' => e = .returned (.string sh) ∧ Below W.heap.size W w') (w : World) (hT : TabP w) :
    Calls Tryz.prog 41 #[.int .i64 lo, .int .i64 hi] w fun e w' => e = .returned (.string (timesS false false true false true sl sh)) ∧ Below w.heap.size w w' := by
  have HL := qhid L
  have HH := qhid H
  have HT := qhid hT
  clear L H hT
  obtain rfl : hi = -1 := by simpa using h2
  go_enter Tryz.func41, Tryz.ntmps41
  go_wp2_with fail
  refine (HL.out w HT.out).mono ?_
  rintro e w1 ⟨rfl, h5⟩
  have H5 := qhid h5
  clear h5
  go_wp2_with fail
  go_ret
  exact ⟨rfl, H5.out⟩
set_option maxHeartbeats 2000000 in
set_option maxRecDepth 100000 in
theorem times_obf (lo hi : Int) (sl sh : ByteArray) (h0 : (lo == 0) = false) (h1 : (lo == 1) = false) (h2 : (hi == -1) = false) (h3 : (hi == 1) = true) (h4 : (lo == hi) = false) (_s1 : sl.size ≤ 21) (_s2 : sh.size ≤ 21)
    (L : ∀ W, TabP W → Calls Tryz.prog 59 #[.int .i64 lo] W fun e w' => e = .returned (.string sl) ∧ Below W.heap.size W w') (H : ∀ W, TabP W → Calls Tryz.prog 59 #[.int .i64 hi] W fun e w' => e = .returned (.string sh) ∧ Below W.heap.size W w') (w : World) (hT : TabP w) :
    Calls Tryz.prog 41 #[.int .i64 lo, .int .i64 hi] w fun e w' => e = .returned (.string (timesS false false false true false sl sh)) ∧ Below w.heap.size w w' := by
  have HL := qhid L
  have HH := qhid H
  have HT := qhid hT
  clear L H hT
  obtain rfl : hi = 1 := by simpa using h3
  go_enter Tryz.func41, Tryz.ntmps41
  go_wp2_with fail
  refine (HL.out w HT.out).mono ?_
  rintro e w1 ⟨rfl, h5⟩
  have H5 := qhid h5
  clear h5
  go_wp2_with fail
  refine (HH.out w1 (HT.out.up H5.out)).mono ?_
  rintro e w2 ⟨rfl, h6⟩
  have H6 := qhid (H5.out.trans (h6.mono H5.out.size))
  clear h6
  go_wp2_with fail
  go_ret
  exact ⟨rfl, H6.out⟩
set_option maxHeartbeats 2000000 in
set_option maxRecDepth 100000 in
theorem times_oof (lo hi : Int) (sl sh : ByteArray) (h0 : (lo == 0) = false) (h1 : (lo == 1) = false) (h2 : (hi == -1) = false) (_h3 : (hi == 1) = false) (h4 : (lo == hi) = false) (_s1 : sl.size ≤ 21) (_s2 : sh.size ≤ 21)
    (L : ∀ W, TabP W → Calls Tryz.prog 59 #[.int .i64 lo] W fun e w' => e = .returned (.string sl) ∧ Below W.heap.size W w') (H : ∀ W, TabP W → Calls Tryz.prog 59 #[.int .i64 hi] W fun e w' => e = .returned (.string sh) ∧ Below W.heap.size W w') (w : World) (hT : TabP w) :
    Calls Tryz.prog 41 #[.int .i64 lo, .int .i64 hi] w fun e w' => e = .returned (.string (timesS false false false false false sl sh)) ∧ Below w.heap.size w w' := by
  have HL := qhid L
  have HH := qhid H
  have HT := qhid hT
  clear L H hT
  go_enter Tryz.func41, Tryz.ntmps41
  go_wp2_with fail
  refine (HL.out w HT.out).mono ?_
  rintro e w1 ⟨rfl, h5⟩
  have H5 := qhid h5
  clear h5
  go_wp2_with fail
  refine (HH.out w1 (HT.out.up H5.out)).mono ?_
  rintro e w2 ⟨rfl, h6⟩
  have H6 := qhid (H5.out.trans (h6.mono H5.out.size))
  clear h6
  go_wp2_with fail
  go_ret
  exact ⟨rfl, H6.out⟩
set_option maxHeartbeats 2000000 in
set_option maxRecDepth 100000 in
theorem times_oot (lo hi : Int) (sl sh : ByteArray) (h0 : (lo == 0) = false) (h1 : (lo == 1) = false) (h2 : (hi == -1) = false) (_h3 : (hi == 1) = false) (h4 : (lo == hi) = true) (_s1 : sl.size ≤ 21) (_s2 : sh.size ≤ 21)
    (L : ∀ W, TabP W → Calls Tryz.prog 59 #[.int .i64 lo] W fun e w' => e = .returned (.string sl) ∧ Below W.heap.size W w') (H : ∀ W, TabP W → Calls Tryz.prog 59 #[.int .i64 hi] W fun e w' => e = .returned (.string sh) ∧ Below W.heap.size W w') (w : World) (hT : TabP w) :
    Calls Tryz.prog 41 #[.int .i64 lo, .int .i64 hi] w fun e w' => e = .returned (.string (timesS false false false false true sl sh)) ∧ Below w.heap.size w w' := by
  have HL := qhid L
  have HH := qhid H
  have HT := qhid hT
  clear L H hT
  obtain rfl : lo = hi := by simpa using h4
  go_enter Tryz.func41, Tryz.ntmps41
  go_wp2_with fail
  refine (HL.out w HT.out).mono ?_
  rintro e w1 ⟨rfl, h5⟩
  have H5 := qhid h5
  clear h5
  go_wp2_with fail
  go_ret
  exact ⟨rfl, H5.out⟩
theorem times_any (lo hi : Int) (hlo : I64 lo) (hhi : I64 hi) (w : World) (hT : TabP w) :
    Calls Tryz.prog 41 #[.int .i64 lo, .int .i64 hi] w fun e w' => e = .returned (.string (baN (timesN lo hi))) ∧ Below w.heap.size w w' := by
  rw [← times_eq]
  have L := fun W hW => itoa_at lo hlo W hW
  have H := fun W hW => itoa_at hi hhi W hW
  have s1 := itS_size hlo
  have s2 := itS_size hhi
  cases h0 : (lo == 0) <;> cases h1 : (lo == 1) <;> cases h2 : (hi == -1) <;> cases h3 : (hi == 1) <;> cases h4 : (lo == hi) <;> (first
    | (exfalso; simp only [beq_iff_eq, beq_eq_false_iff_ne, ne_eq] at h0 h1 h2 h3 h4; omega)
    | exact times_amf lo hi _ _ h0 h1 h2 h3 h4 s1 s2 L H w hT
    | exact times_abf lo hi _ _ h0 h1 h2 h3 h4 s1 s2 L H w hT
    | exact times_aof lo hi _ _ h0 h1 h2 h3 h4 s1 s2 L H w hT
    | exact times_aot lo hi _ _ h0 h1 h2 h3 h4 s1 s2 L H w hT
    | exact times_bmf lo hi _ _ h0 h1 h2 h3 h4 s1 s2 L H w hT
    | exact times_bbt lo hi _ _ h0 h1 h2 h3 h4 s1 s2 L H w hT
    | exact times_bof lo hi _ _ h0 h1 h2 h3 h4 s1 s2 L H w hT
    | exact times_omf lo hi _ _ h0 h1 h2 h3 h4 s1 s2 L H w hT
    | exact times_omt lo hi _ _ h0 h1 h2 h3 h4 s1 s2 L H w hT
    | exact times_obf lo hi _ _ h0 h1 h2 h3 h4 s1 s2 L H w hT
    | exact times_oof lo hi _ _ h0 h1 h2 h3 h4 s1 s2 L H w hT
    | exact times_oot lo hi _ _ h0 h1 h2 h3 h4 s1 s2 L H w hT)
def cntN (lo hi : Int) (z : Bool) : List Nat := timesN lo hi ++ (if z then [63] else [])
theorem timesN_len {lo hi : Int} (hlo : I64 lo) (hhi : I64 hi) : (timesN lo hi).length ≤ 45 := by
  have s1 := itS_size hlo
  have s2 := itS_size hhi
  rw [itS_eq, baN_size] at s1 s2
  unfold timesN
  repeat' split
  all_goals simp
  all_goals omega
theorem cntN_len {lo hi : Int} (z : Bool) (hlo : I64 lo) (hhi : I64 hi) : (cntN lo hi z).length ≤ 46 := by
  have := timesN_len hlo hhi
  unfold cntN
  cases z <;> simp <;> omega
set_option maxHeartbeats 2000000 in
set_option maxRecDepth 100000 in
theorem pcount_any (lo hi : Int) (z : Bool) (hlo : I64 lo) (hhi : I64 hi) (w : World) (hT : TabP w) :
    Calls Tryz.prog 17 #[.int .i64 lo, .int .i64 hi, .bool z] w fun e w' => e = .returned (.string (baN (cntN lo hi z))) ∧ Below w.heap.size w w' := by
  have TM := qhid (times_any lo hi hlo hhi w hT)
  have HF : Hid (baN (cntN lo hi true) = baN (timesN lo hi) ++ ⟨#[63]⟩) := qhid (baN_append _ _)
  have HG : Hid (baN (cntN lo hi false) = baN (timesN lo hi)) := qhid (by unfold cntN; rw [if_neg (by simp), List.append_nil])
  have hs := timesN_len hlo hhi
  rw [← baN_size] at hs
  generalize baN (timesN lo hi) = s at *
  clear hlo hhi hT
  cases z with
  | true =>
    go_enter Tryz.func17, Tryz.ntmps17
    go_wp2_with fail
    refine TM.out.mono ?_
    rintro e w1 ⟨rfl, h1⟩
    have H1 := qhid h1
    clear h1
    go_wp2_with fail
    go_ret
    exact ⟨by rw [HF.out] <;> rfl, H1.out⟩
  | false =>
    go_enter Tryz.func17, Tryz.ntmps17
    go_wp2_with fail
    refine TM.out.mono ?_
    rintro e w1 ⟨rfl, h1⟩
    have H1 := qhid h1
    clear h1
    go_wp2_with fail
    go_ret
    exact ⟨by rw [HG.out] <;> rfl, H1.out⟩
end
end
section
section
open Go Go.RowKit
/-- Texts, one behind the other, with a text between. -/
def joinP (sep : List Nat) : List (List Nat) → List Nat
  | [] => []
  | p :: r => p ++ r.flatMap fun x => sep ++ x
theorem joinP_snoc (sep x : List Nat) : ∀ ps : List (List Nat), joinP sep (ps ++ [x]) = joinP sep ps ++ ((if ps = [] then [] else sep) ++ x)
  | [] => by simp [joinP]
  | p :: r => by simp [joinP]
/-- What is printed of a node, of what is printed of its nodes. -/
def prN (k : Int) (s : W4) (lo hi : Int) (z : Bool) (ps : List (List Nat)) : List Nat :=
  if k = 1 then setN s else if k = 2 then 40 :: (ps.headD [] ++ [41]) else if k = 3 then 40 :: 63 :: 58 :: (ps.headD [] ++ [41]) else if k = 4 then joinP [] ps else if k = 5 then joinP [124] ps
  else if k = 6 then ps.headD [] ++ cntN lo hi z else []
mutual
def prT : Tr → List Nat
  | .mk k s lo hi z _ _ l => prN k s lo hi z (prTs l)
def prTs : List Tr → List (List Nat)
  | [] => []
  | t :: r => prT t :: prTs r
end
theorem prTs_map : ∀ l : List Tr, prTs l = l.map prT
  | [] => rfl
  | t :: r => by rw [prTs, prTs_map r]; rfl
theorem prT_eq (k : Int) (s : W4) (lo hi : Int) (z : Bool) (a b : Nat) (l : List Tr) : prT (.mk k s lo hi z a b l) = prN k s lo hi z (l.map prT) := by rw [prT, prTs_map]
/-- What a node must have to be printed. -/
inductive WfT : Tr → Prop
  | node (k : Int) (s : W4) (lo hi : Int) (z : Bool) (a b : Nat) (l : List Tr) (hs : k = 1 → s.fit) (hl : k = 2 ∨ k = 3 ∨ k = 6 → ∃ u r, l = u :: r) (hc : k = 6 → I64 lo ∧ I64 hi) (ht : ∀ (i : Nat) (t : Tr), l[i]? = some t → WfT t) : WfT (.mk k s lo hi z a b l)
def byN (l : List Nat) : List UInt8 := l.map Nat.toUInt8
theorem byN_append (l m : List Nat) : byN (l ++ m) = byN l ++ byN m := List.map_append
theorem byN_length (l : List Nat) : (byN l).length = l.length := List.length_map ..
theorem strCells_baN (l : List Nat) : Lib.strCells (baN l) = Lib.byteCells (byN l) := rfl
theorem WrAt.up {B b : Nat} {l : List UInt8} {w w' : World} (h : WrAt B b l w) (hb : Below w.heap.size w w') : WrAt B b l w' := by
  have key : ∀ p, Lib.BuilderAt 64 5 B b p (Lib.byteCells l) w → Lib.BuilderAt 64 5 B b p (Lib.byteCells l) w' := by
    intro p ⟨h1, v, h2, h3, h4⟩
    exact ⟨h1, v, (hb.block b (Reg.size_of_get h2)).trans h2, ownsBelow h3 hb, h4⟩
  exact h.imp (key _) (key _)
theorem WrAt.le {B b : Nat} {l : List UInt8} {w : World} (h : WrAt B b l w) : B ≤ b ∧ b < w.heap.size := by
  rcases h with h | h
  · exact ⟨h.1, h.lt⟩
  · exact ⟨h.1, h.lt⟩
theorem wr_len {B b : Nat} {l : List UInt8} {w : World} (h : WrAt B b l w) :
    Calls Tryz.prog 26 #[.pointer (some ⟨b, 0, none⟩)] w fun e w' => e = .returned (.int .i64 (l.length : Int)) ∧ w' = w :=
  (bd_len B b _ w h).mono fun e w' ⟨he, hw⟩ => ⟨by rw [he, Lib.byteCells_length], hw⟩
/-- What is written, and where the world stands behind it. -/
def WrTo (B b : Nat) (l : List UInt8) (w w' : World) : Prop := WrAt B b l w' ∧ Below B w w'
theorem wr_write {B b : Nat} {l : List UInt8} {w : World} (x : List Nat) (h : WrAt B b l w) (hlen : l.length + x.length ≤ 1099511627776) :
    Calls Tryz.prog 51 #[.pointer (some ⟨b, 0, none⟩), .string (baN x)] w fun e w' => e = .returned (.tuple #[.int .i64 (x.length : Int), .nilIface]) ∧ WrTo B b (l ++ byN x) w w' := by
  refine (bd_write B b _ (baN x) w h (by rw [Lib.byteCells_length, baN_size]; omega) (by have := h.le; omega)).mono fun e w' ⟨he, hW, hb⟩ => ⟨by rw [he, baN_size], .inr ?_, hb⟩
  rw [Lib.byteCells_append, ← strCells_baN]
  exact hW
/-- A node is printed behind what stands there. -/
def NodeC (w0 : World) (t : Tr) (q : Nat) : Prop := ∀ (b : Nat) (l : List UInt8) (w : World), WrAt w0.heap.size b l w → Below w0.heap.size w0 w → l.length + (prT t).length ≤ 1048576 →
  Calls Tryz.prog 25 #[.pointer (some ⟨b, 0, none⟩), ndPtr q] w fun e w' => e = .returned (.tuple #[]) ∧ WrTo w0.heap.size b (l ++ byN (prT t)) w w'
/-- The nodes of a node lie there, and each can be printed. -/
def KidC (w0 : World) (l : List Tr) (p : Option Addr) : Prop := ∀ (i : Nat) (t : Tr), l[i]? = some t → ∃ c q, p = some ⟨c, 0, none⟩ ∧ c < w0.heap.size ∧ w0.cell? ⟨c, i, none⟩ = some (ndPtr q) ∧ NodeC w0 t q
end
section
open Go Go.RowKit
attribute [local go_sem ↓] Go.wp_at_zero Go.wp_at_succ
set_option maxRecDepth 100000 in
set_option maxHeartbeats 4000000 in
theorem group_any {w0 : World} (op : List Nat) {q : Nat} {k : Int} {s : W4} {lo hi : Int} {z : Bool} {a b cap : Nat} {p : Option Addr} {u : Tr} {r : List Tr} (hq : w0.heap[q]? = some (ndOb k s lo hi z (.slice p (u :: r).length cap) a b)) (hk : KidC w0 (u :: r) p)
    (g : Nat) (l : List UInt8) (w : World) (hW : WrAt w0.heap.size g l w) (hB : Below w0.heap.size w0 w) (hlen : l.length + (op.length + ((prT u).length + 1)) ≤ 1048576) :
    Calls Tryz.prog 52 #[.pointer (some ⟨g, 0, none⟩), .string (baN op), ndPtr q] w fun e w' => e = .returned (.tuple #[]) ∧ WrTo w0.heap.size g (l ++ byN (op ++ (prT u ++ [41]))) w w' := by
  obtain ⟨c, q', rfl, hc, hcell, hn⟩ := hk 0 u rfl
  have hql := Reg.size_of_get hq
  have WR := qhid (wr_write op hW (by omega))
  have HN := qhid hn
  have HB := qhid hB
  have hl1 : 0 < (u :: r).length := by simp
  have n8 := Joins.cell_of_block hq 8
  simp only [List.getElem?_toArray, List.getElem?_cons_zero, List.getElem?_cons_succ] at n8
  generalize (u :: r).length = ln at *
  have HC8 := qhid n8
  have HCC := qhid hcell
  clear hk hn hq hW hB n8 hcell
  go_enter Tryz.func52, Tryz.ntmps52
  go_wp2_with fail
  refine WR.out.mono ?_
  rintro e w1 ⟨rfl, hW1, hB1⟩
  have HB1 := qhid (HB.out.trans hB1)
  have HB0 := qhid hB1
  have n8 : w1.cell? ⟨q, 8, none⟩ = some (.slice (some ⟨c, 0, none⟩) ln cap) := ((HB.out.trans hB1).cell (p := ⟨q, 8, none⟩) hql).trans HC8.out
  have c0 : w1.cell? ⟨c, 0, none⟩ = some (ndPtr q') := ((HB.out.trans hB1).cell (p := ⟨c, 0, none⟩) hc).trans HCC.out
  have NC := qhid (HN.out g _ w1 hW1 (HB.out.trans hB1) (by rw [List.length_append, byN_length]; omega))
  clear hW1 hB1 WR
  go_wp2_with fail
  refine NC.out.mono ?_
  rintro e w2 ⟨rfl, hW2, hB2⟩
  have W3 := qhid (wr_write [41] hW2 (by rw [List.length_append, List.length_append, byN_length, byN_length]; simp; omega))
  have HB2 := qhid (HB0.out.trans hB2)
  clear hW2 hB2 NC n8 c0
  go_wp2_with fail
  refine W3.out.mono ?_
  rintro e w3 ⟨rfl, hW3, hB3⟩
  have HF := qhid hW3
  have HB3 := qhid (HB2.out.trans hB3)
  clear hW3 hB3
  go_wp2_with fail
  go_end0
  refine ⟨rfl, ?_, HB3.out⟩
  have h := HF.out
  rw [List.append_assoc, List.append_assoc, ← byN_append, ← byN_append] at h
  exact h
theorem join_take (sep : List Nat) (l : List Tr) (k : Nat) (t : Tr) (h : l[k]? = some t) : joinP sep ((l.take (k + 1)).map prT) = joinP sep ((l.take k).map prT) ++ ((if k = 0 then [] else sep) ++ prT t) := by
  have hlt : k < l.length := by
    rcases Nat.lt_or_ge k l.length with h' | h'
    · exact h'
    · rw [List.getElem?_eq_none h'] at h; cases h
  rw [List.take_add_one, h]
  show joinP sep ((l.take k ++ [t]).map prT) = _
  rw [List.map_append]
  show joinP sep ((l.take k).map prT ++ [prT t]) = _
  rw [joinP_snoc]
  congr 2
  cases k with
  | zero => simp
  | succ k => rw [if_neg (by intro e; have h2 := congrArg List.length e; rw [List.length_map, List.length_take, List.length_nil] at h2; omega), if_neg (by simp)]
theorem join_le (sep : List Nat) (l : List Tr) : ∀ j k, (joinP sep ((l.take k).map prT)).length ≤ (joinP sep ((l.take (k + j)).map prT)).length
  | 0, _ => Nat.le_refl _
  | j + 1, k => by
    refine Nat.le_trans (join_le sep l j k) ?_
    cases h : l[k + j]? with
    | none =>
      have := List.getElem?_eq_none_iff.1 h
      rw [List.take_of_length_le this, List.take_of_length_le (by omega)]
      exact Nat.le_refl _
    | some t => rw [← Nat.add_assoc, join_take sep l (k + j) t h, List.length_append]; omega
set_option maxRecDepth 100000 in
set_option maxHeartbeats 4000000 in
theorem nodes_any {w0 : World} (sep : List Nat) {l : List Tr} {p : Option Addr} {cap : Nat} (hk : KidC w0 l p) (g : Nat) (lb : List UInt8) (w : World) (hW : WrAt w0.heap.size g lb w) (hB : Below w0.heap.size w0 w) (hln : l.length ≤ 1099511627776) (hlen : lb.length + (joinP sep (l.map prT)).length ≤ 1048576) :
    Calls Tryz.prog 53 #[.pointer (some ⟨g, 0, none⟩), .slice p l.length cap, .string (baN sep)] w fun e w' => e = .returned (.tuple #[]) ∧ WrTo w0.heap.size g (lb ++ byN (joinP sep (l.map prT))) w w' := by
  have HK := qhid hk
  have HW := qhid hW
  have HB := qhid hB
  obtain ⟨T, hT⟩ : ∃ T, T = byN (joinP sep (l.map prT)) := ⟨_, rfl⟩
  rw [← hT]
  have HT := qhid hT
  have HJ : Hid (∀ k, k ≤ l.length → (joinP sep ((l.take k).map prT)).length ≤ (joinP sep (l.map prT)).length) := qhid (fun k hk => by
    have := join_le sep l (l.length - k) k
    rwa [show k + (l.length - k) = l.length by omega, List.take_length] at this)
  clear hk hW hB hT
  go_enter Tryz.func53, Tryz.ntmps53
  go_wp2_with fail
  go_loopw [10] (fun iv wr => ∃ k : Nat, k ≤ l.length ∧ iv = .int .i64 k ∧ Hid (WrTo w0.heap.size g (lb ++ byN (joinP sep ((l.take k).map prT))) w wr)) (fun iv _ => l.length - (intOf iv).toNat)
  case atStart => exact ⟨0, by omega, rfl, qhid ⟨by show WrAt _ _ (lb ++ []) _; rw [List.append_nil]; exact HW.out, Below.refl _ _⟩⟩
  case round =>
    obtain ⟨k, hkl, rfl, HR⟩ := hrel
    by_cases hlt : k < l.length
    · obtain ⟨t, ht⟩ : ∃ t, l[k]? = some t := ⟨_, List.getElem?_eq_getElem hlt⟩
      obtain ⟨c, q', hp, hc, hcell, hn⟩ := HK.out k t ht
      subst hp
      have HBr := qhid (HB.out.trans HR.out.2)
      have ck : wr.cell? ⟨c, k, none⟩ = some (ndPtr q') := (HBr.out.cell (p := ⟨c, k, none⟩) hc).trans hcell
      have hj := HJ.out (k + 1) (by omega)
      have HJT := qhid (join_take sep l k t ht)
      rw [HJT.out, List.length_append, List.length_append] at hj
      have HN := qhid hn
      by_cases hk0 : k = 0
      · subst hk0
        rw [if_pos rfl] at hj
        have NC := qhid (HN.out g _ wr HR.out.1 HBr.out (by rw [List.length_append, byN_length]; simp at hj ⊢; omega))
        have HE : Hid (joinP sep ((l.take (0 + 1)).map prT) = joinP sep ((l.take 0).map prT) ++ prT t) := qhid (by rw [HJT.out, if_pos rfl, List.nil_append])
        have H1 := HR.out.2
        have HR1 := qhid H1
        clear HJT ht hcell HR HN hj hn H1
        go_wp2_with fail
        refine NC.out.mono ?_
        rintro e w1 ⟨rfl, hW1, hB1⟩
        have HW1 := qhid hW1
        have HB1 := qhid (HR1.out.trans hB1)
        clear hW1 hB1 NC
        go_wp2_with fail
        go_roundw
        case rel => exact ⟨0 + 1, by omega, by go_num, ⟨by rw [HE.out, byN_append, ← List.append_assoc]; exact HW1.out, HB1.out⟩⟩
        case measure => simp [intOf]; omega
      · rw [if_neg hk0] at hj
        have WR := qhid (wr_write sep HR.out.1 (by rw [List.length_append, byN_length]; omega))
        have HE : Hid (joinP sep ((l.take (k + 1)).map prT) = joinP sep ((l.take k).map prT) ++ (sep ++ prT t)) := qhid (by rw [HJT.out, if_neg hk0])
        have hk1 : 0 < k := by omega
        have hk2 : (0 : Int) < (k : Int) := by omega
        have H1 := HR.out.2
        have HR1 := qhid H1
        clear HJT ht hcell HR hn hk0 H1
        go_wp2_with fail
        refine WR.out.mono ?_
        rintro e w1 ⟨rfl, hW1, hB1⟩
        have NC := qhid (HN.out g _ w1 hW1 (HBr.out.trans hB1) (by rw [List.length_append, List.length_append, byN_length, byN_length]; omega))
        have HB1 := qhid (HR1.out.trans hB1)
        clear hW1 hB1 WR hj
        go_wp2_with fail
        refine NC.out.mono ?_
        rintro e w2 ⟨rfl, hW2, hB2⟩
        have HW2 := qhid hW2
        have HB2 := qhid (HB1.out.trans hB2)
        clear hW2 hB2 NC
        go_wp2_with fail
        go_roundw
        case rel => exact ⟨k + 1, by omega, by go_num, ⟨by have h := HW2.out; rw [HE.out, byN_append, byN_append]; simpa only [List.append_assoc] using h, HB2.out⟩⟩
        case measure => simp [intOf]; omega
    · obtain rfl : k = l.length := by omega
      have HF : Hid (WrTo w0.heap.size g (lb ++ T) w wr) := qhid (by have h := HR.out; rw [List.take_length, ← HT.out] at h; exact h)
      go_wp2_with fail
      go_end0
      exact ⟨rfl, HF.out⟩
end
end
section
section
open Go Go.RowKit
attribute [local go_sem ↓] Go.wp_at_zero Go.wp_at_succ
attribute [local go_sem] eq4
def ndToldS (g q : Nat) (s : W4) : Nat → Value
  | 0 => .pointer (some ⟨g, 0, none⟩)
  | 1 => .pointer (some ⟨g, 0, none⟩)
  | 2 => .pointer (some ⟨g, 0, none⟩)
  | 3 => ndPtr q
  | 4 => ndPtr q
  | 5 => .pointer (some ⟨q, 1, none⟩)
  | 6 => setVal s
  | 7 => .string (baN (setN s))
  | 8 => .tuple #[.int .i64 ((setN s).length : Int), .nilIface]
  | _ => undef
def ndToldR (g q : Nat) (lo hi : Int) (z : Bool) : Nat → Value
  | 0 => .pointer (some ⟨g, 0, none⟩)
  | 1 => .pointer (some ⟨g, 0, none⟩)
  | 2 => .pointer (some ⟨g, 0, none⟩)
  | 3 => ndPtr q
  | 4 => ndPtr q
  | 5 => .pointer (some ⟨q, 5, none⟩)
  | 6 => .int .i64 lo
  | 7 => ndPtr q
  | 8 => ndPtr q
  | 9 => .pointer (some ⟨q, 6, none⟩)
  | 10 => .int .i64 hi
  | 11 => ndPtr q
  | 12 => ndPtr q
  | 13 => .pointer (some ⟨q, 7, none⟩)
  | 14 => .bool z
  | 15 => .string (baN (cntN lo hi z))
  | 16 => .tuple #[.int .i64 ((cntN lo hi z).length : Int), .nilIface]
  | _ => undef
set_option maxRecDepth 100000 in
set_option maxHeartbeats 4000000 in
theorem node_set {w0 : World} {q : Nat} {s : W4} {lo hi : Int} {z : Bool} {a b : Nat} {l : List Tr} {p : Option Addr} {cap : Nat} (hq : w0.heap[q]? = some (ndOb 1 s lo hi z (.slice p l.length cap) a b)) (hf : s.fit) (hT : Tab w0) : NodeC w0 (.mk 1 s lo hi z a b l) q := by
  intro g lb w hW hB hlen
  rw [prT_eq] at hlen ⊢
  have HPN : prN 1 s lo hi z (l.map prT) = setN s := rfl
  rw [HPN] at hlen ⊢
  clear HPN
  have LN := qhid (wr_len hW)
  have HWW := qhid hW
  have HB := qhid hB
  have hBs := hB.size
  have hql := Reg.size_of_get hq
  have hll : (lb.length : Int) ≤ 1048576 := by omega
  have hle : decide ((1048576 : Int) < (lb.length : Int)) = false := decide_eq_false (by omega)
  have HCELL : Hid (∀ X i, Below w0.heap.size w0 X → X.cell? ⟨q, i, none⟩ = w0.cell? ⟨q, i, none⟩) := qhid (fun X i hX => hX.cell (p := ⟨q, i, none⟩) hql)
  have HQ := qhid hq
  have n0 : w.cell? ⟨q, 0, none⟩ = some (.int .i64 1) := (HCELL.out w 0 hB).trans (by rw [Joins.cell_of_block hq 0]; rfl)
  have HFIT := qhid hf
  have HTX : Hid (∀ X, Below w.heap.size w X → Tab X) := qhid (fun X hX => hT.below (hB.trans (hX.mono hBs)) hT.lt)
  have HLEN := qhid (show lb.length + (setN s).length ≤ 1099511627776 by omega)
  have HBs := qhid hBs
  have HC1 : Hid (∀ X, Below w.heap.size w X → X.cell? ⟨q, 1, none⟩ = some (.int .u64 s.a)) := qhid (fun X hX => (HCELL.out X 1 (HB.out.trans (hX.mono hBs))).trans (by rw [Joins.cell_of_block HQ.out 1]; rfl))
  have HC2 : Hid (∀ X, Below w.heap.size w X → X.cell? ⟨q, 2, none⟩ = some (.int .u64 s.b)) := qhid (fun X hX => (HCELL.out X 2 (HB.out.trans (hX.mono hBs))).trans (by rw [Joins.cell_of_block HQ.out 2]; rfl))
  have HC3 : Hid (∀ X, Below w.heap.size w X → X.cell? ⟨q, 3, none⟩ = some (.int .u64 s.c)) := qhid (fun X hX => (HCELL.out X 3 (HB.out.trans (hX.mono hBs))).trans (by rw [Joins.cell_of_block HQ.out 3]; rfl))
  have HC4 : Hid (∀ X, Below w.heap.size w X → X.cell? ⟨q, 4, none⟩ = some (.int .u64 s.d)) := qhid (fun X hX => (HCELL.out X 4 (HB.out.trans (hX.mono hBs))).trans (by rw [Joins.cell_of_block HQ.out 4]; rfl))
  clear hW hB hq hf hT hlen HQ HCELL
  go_enter Tryz.func25, Tryz.ntmps25
  go_wp2_with fail
  refine LN.out.mono ?_
  rintro e w1 ⟨rfl, hw⟩
  obtain rfl : w = w1 := hw.symm
  clear LN
  go_wp2_with fail
  refine Reg.wp_region_C (ndToldS g q s) (Reg.GenC 8 (fun X => Below w.heap.size w X) (fun X => WrTo w0.heap.size g (lb ++ byN (setN s)) w X)) [0, 1, 2, 3, 4, 5, 6, 7, 8] (by rfl) (by kernel_rfl) (by kernel_rfl) ?_ ?_ ?_
  · exact Reg.GenC.start _ _ (Below.drew (Below.refl _ _))
  · skip
    refine ⟨fun listed A X hI hcl hin hun hall => .inl ⟨Reg.wanted_none rfl, ?_⟩, ?_⟩
    · have e0 := hI.evo (d := 0) (by kernel_rfl) rfl
      have HS := hI.st
      clear hI hall hcl
      unfold Reg.Yields
      go_simp
      first | rfl | exact ⟨rfl, HS.up (by decide)⟩ | (refine ⟨?_, HS.up (by decide)⟩; simp [ndToldS])
    refine ⟨fun listed A X hI hcl hin hun hall => .inl ⟨Reg.wanted_none rfl, ?_⟩, ?_⟩
    · have e15 : A.tmps[15]? = some (.pointer (some ⟨g, 0, none⟩)) := hI.ev (i := 0) (d := 15) (by rfl) (hall ⟨0, .data⟩ (by simp) rfl)
      have HS := hI.st
      clear hI hall hcl
      unfold Reg.Yields
      go_simp
      first | rfl | exact ⟨rfl, HS.up (by decide)⟩ | (refine ⟨?_, HS.up (by decide)⟩; simp [ndToldS])
    refine ⟨fun listed A X hI hcl hin hun hall => .inl ⟨Reg.wanted_none rfl, ?_⟩, ?_⟩
    · have e16 : A.tmps[16]? = some (.pointer (some ⟨g, 0, none⟩)) := hI.ev (i := 1) (d := 16) (by rfl) (hall ⟨1, .data⟩ (by simp) rfl)
      have HS := hI.st
      clear hI hall hcl
      unfold Reg.Yields
      go_simp
      first | rfl | exact ⟨rfl, HS.up (by decide)⟩ | (refine ⟨?_, HS.up (by decide)⟩; simp [ndToldS])
    refine ⟨fun listed A X hI hcl hin hun hall => .inl ⟨Reg.wanted_none rfl, ?_⟩, ?_⟩
    · have e1 := hI.evo (d := 1) (by kernel_rfl) rfl
      have HS := hI.st
      clear hI hall hcl
      unfold Reg.Yields
      go_simp
      first | rfl | exact ⟨rfl, HS.up (by decide)⟩ | (refine ⟨?_, HS.up (by decide)⟩; simp [ndToldS])
    refine ⟨fun listed A X hI hcl hin hun hall => .inl ⟨Reg.wanted_none rfl, ?_⟩, ?_⟩
    · have e18 : A.tmps[18]? = some (ndPtr q) := hI.ev (i := 3) (d := 18) (by rfl) (hall ⟨3, .data⟩ (by simp) rfl)
      have HS := hI.st
      clear hI hall hcl
      unfold Reg.Yields
      go_simp
      first | rfl | exact ⟨rfl, HS.up (by decide)⟩ | (refine ⟨?_, HS.up (by decide)⟩; simp [ndToldS])
    refine ⟨fun listed A X hI hcl hin hun hall => .inl ⟨Reg.wanted_none rfl, ?_⟩, ?_⟩
    · have e19 : A.tmps[19]? = some (ndPtr q) := hI.ev (i := 4) (d := 19) (by rfl) (hall ⟨4, .data⟩ (by simp) rfl)
      have HS := hI.st
      clear hI hall hcl
      unfold Reg.Yields
      go_simp
      first | rfl | exact ⟨rfl, HS.up (by decide)⟩ | (refine ⟨?_, HS.up (by decide)⟩; simp [ndToldS])
    refine ⟨fun listed A X hI hcl hin hun hall => .inl ⟨Reg.wanted_none rfl, ?_⟩, ?_⟩
    · have e20 : A.tmps[20]? = some (.pointer (some ⟨q, 1, none⟩)) := hI.ev (i := 5) (d := 20) (by rfl) (hall ⟨5, .data⟩ (by simp) rfl)
      have HS := hI.st
      have hX := HS.at hcl (i := 6) (by kernel_rfl) (by simpa using hun)
      have c1 := HC1.out X hX
      have c2 := HC2.out X hX
      have c3 := HC3.out X hX
      have c4 := HC4.out X hX
      clear hI hall hcl
      have HX := qhid hX
      clear hX
      unfold Reg.Yields
      go_simp
      first | rfl | exact ⟨rfl, HS.up (by decide)⟩ | (refine ⟨?_, HS.up (by decide)⟩; simp [ndToldS])
    refine ⟨fun listed A X hI hcl hin hun hall => .inl ⟨Reg.wanted_none rfl, ?_⟩, ?_⟩
    · have e21 : A.tmps[21]? = some (setVal s) := hI.ev (i := 6) (d := 21) (by rfl) (hall ⟨6, .data⟩ (by simp) rfl)
      have HS := hI.st
      have hX := HS.at hcl (i := 7) (by kernel_rfl) (by simpa using hun)
      clear hI hall
      have HX := qhid hX
      clear hX
      unfold Reg.Yields
      go_simp
      exact (set_any s HFIT.out X (HTX.out X HX.out)).mono fun e w'' ⟨he, hb⟩ => ⟨_, he, rfl, HS.step hcl (by kernel_rfl) (by simpa using hun) (by decide) (HX.out.trans (hb.mono HX.out.size))⟩
    refine ⟨fun listed A X hI hcl hin hun hall => .inl ⟨Reg.wanted_none rfl, ?_⟩, ?_⟩
    · have e17 : A.tmps[17]? = some (.pointer (some ⟨g, 0, none⟩)) := hI.ev (i := 2) (d := 17) (by rfl) (hall ⟨2, .data⟩ (by simp) rfl)
      have e22 : A.tmps[22]? = some (.string (baN (setN s))) := hI.ev (i := 7) (d := 22) (by rfl) (hall ⟨7, .data⟩ (by simp) rfl)
      have HS := hI.st
      have hX := HS.ahead (by simpa using hun)
      clear hI hall hcl
      have HX := qhid hX
      clear hX
      unfold Reg.Yields
      go_simp
      exact (wr_write (setN s) (HWW.out.up HX.out) HLEN.out).mono fun e w'' ⟨he, h1, h2⟩ => ⟨_, he, rfl, Reg.GenC.put hin ⟨h1, (HX.out.mono HBs.out).trans h2⟩⟩
    trivial
  · intro X hS
    have hR := hS.done (by rfl)
    clear hS
    simp [Reg.finalTmps, Reg.dstAt, Reg.valOf, ndToldS]
    have HR := qhid hR
    clear hR
    go_wp2_with fail
    go_end0
    exact ⟨rfl, HR.out⟩
set_option maxRecDepth 100000 in
set_option maxHeartbeats 4000000 in
theorem node_cap {w0 : World} {q : Nat} {s : W4} {lo hi : Int} {z : Bool} {a b : Nat} {l : List Tr} {p : Option Addr} {cap : Nat} (hq : w0.heap[q]? = some (ndOb 2 s lo hi z (.slice p l.length cap) a b)) (hl : ∃ u r, l = u :: r) (hk : KidC w0 l p) : NodeC w0 (.mk 2 s lo hi z a b l) q := by
  obtain ⟨u, r, rfl⟩ := hl
  intro g lb w hW hB hlen
  rw [prT_eq] at hlen ⊢
  have HPN : prN 2 s lo hi z ((u :: r).map prT) = [40] ++ (prT u ++ [41]) := rfl
  rw [HPN] at hlen ⊢
  clear HPN
  have LN := qhid (wr_len hW)
  have HWW := qhid hW
  have HB := qhid hB
  have hBs := hB.size
  have hql := Reg.size_of_get hq
  have hll : (lb.length : Int) ≤ 1048576 := by omega
  have hle : decide ((1048576 : Int) < (lb.length : Int)) = false := decide_eq_false (by omega)
  have HCELL : Hid (∀ X i, Below w0.heap.size w0 X → X.cell? ⟨q, i, none⟩ = w0.cell? ⟨q, i, none⟩) := qhid (fun X i hX => hX.cell (p := ⟨q, i, none⟩) hql)
  have HQ := qhid hq
  have n0 : w.cell? ⟨q, 0, none⟩ = some (.int .i64 2) := (HCELL.out w 0 hB).trans (by rw [Joins.cell_of_block hq 0]; rfl)
  have GR := qhid (group_any [40] hq hk g lb w hW hB (by simp at hlen ⊢; omega))
  clear hW hB hq hk hlen HQ HCELL
  go_enter Tryz.func25, Tryz.ntmps25
  go_wp2_with fail
  refine LN.out.mono ?_
  rintro e w1 ⟨rfl, hw⟩
  obtain rfl : w = w1 := hw.symm
  clear LN
  go_wp2_with fail
  refine GR.out.mono ?_
  rintro e w1 ⟨rfl, h1⟩
  have H1 := qhid h1
  clear h1 GR
  go_wp2_with fail
  go_end0
  exact ⟨rfl, H1.out⟩
set_option maxRecDepth 100000 in
set_option maxHeartbeats 4000000 in
theorem node_free {w0 : World} {q : Nat} {s : W4} {lo hi : Int} {z : Bool} {a b : Nat} {l : List Tr} {p : Option Addr} {cap : Nat} (hq : w0.heap[q]? = some (ndOb 3 s lo hi z (.slice p l.length cap) a b)) (hl : ∃ u r, l = u :: r) (hk : KidC w0 l p) : NodeC w0 (.mk 3 s lo hi z a b l) q := by
  obtain ⟨u, r, rfl⟩ := hl
  intro g lb w hW hB hlen
  rw [prT_eq] at hlen ⊢
  have HPN : prN 3 s lo hi z ((u :: r).map prT) = [40, 63, 58] ++ (prT u ++ [41]) := rfl
  rw [HPN] at hlen ⊢
  clear HPN
  have LN := qhid (wr_len hW)
  have HWW := qhid hW
  have HB := qhid hB
  have hBs := hB.size
  have hql := Reg.size_of_get hq
  have hll : (lb.length : Int) ≤ 1048576 := by omega
  have hle : decide ((1048576 : Int) < (lb.length : Int)) = false := decide_eq_false (by omega)
  have HCELL : Hid (∀ X i, Below w0.heap.size w0 X → X.cell? ⟨q, i, none⟩ = w0.cell? ⟨q, i, none⟩) := qhid (fun X i hX => hX.cell (p := ⟨q, i, none⟩) hql)
  have HQ := qhid hq
  have n0 : w.cell? ⟨q, 0, none⟩ = some (.int .i64 3) := (HCELL.out w 0 hB).trans (by rw [Joins.cell_of_block hq 0]; rfl)
  have GR := qhid (group_any [40, 63, 58] hq hk g lb w hW hB (by simp at hlen ⊢; omega))
  clear hW hB hq hk hlen HQ HCELL
  go_enter Tryz.func25, Tryz.ntmps25
  go_wp2_with fail
  refine LN.out.mono ?_
  rintro e w1 ⟨rfl, hw⟩
  obtain rfl : w = w1 := hw.symm
  clear LN
  go_wp2_with fail
  refine GR.out.mono ?_
  rintro e w1 ⟨rfl, h1⟩
  have H1 := qhid h1
  clear h1 GR
  go_wp2_with fail
  go_end0
  exact ⟨rfl, H1.out⟩
set_option maxRecDepth 100000 in
set_option maxHeartbeats 4000000 in
theorem node_cat {w0 : World} {q : Nat} {s : W4} {lo hi : Int} {z : Bool} {a b : Nat} {l : List Tr} {p : Option Addr} {cap : Nat} (hq : w0.heap[q]? = some (ndOb 4 s lo hi z (.slice p l.length cap) a b)) (hk : KidC w0 l p) (hln : l.length ≤ 1099511627776) : NodeC w0 (.mk 4 s lo hi z a b l) q := by
  intro g lb w hW hB hlen
  rw [prT_eq] at hlen ⊢
  have HPN : prN 4 s lo hi z (l.map prT) = joinP [] (l.map prT) := rfl
  rw [HPN] at hlen ⊢
  clear HPN
  have LN := qhid (wr_len hW)
  have HWW := qhid hW
  have HB := qhid hB
  have hBs := hB.size
  have hql := Reg.size_of_get hq
  have hll : (lb.length : Int) ≤ 1048576 := by omega
  have hle : decide ((1048576 : Int) < (lb.length : Int)) = false := decide_eq_false (by omega)
  have HCELL : Hid (∀ X i, Below w0.heap.size w0 X → X.cell? ⟨q, i, none⟩ = w0.cell? ⟨q, i, none⟩) := qhid (fun X i hX => hX.cell (p := ⟨q, i, none⟩) hql)
  have HQ := qhid hq
  have n0 : w.cell? ⟨q, 0, none⟩ = some (.int .i64 4) := (HCELL.out w 0 hB).trans (by rw [Joins.cell_of_block hq 0]; rfl)
  have n8 : w.cell? ⟨q, 8, none⟩ = some (.slice p l.length cap) := (HCELL.out w 8 hB).trans (by rw [Joins.cell_of_block hq 8]; rfl)
  have ND := qhid (nodes_any [] (cap := cap) hk g lb w hW hB hln hlen)
  generalize joinP [] (l.map prT) = tx at *
  clear hW hB hq hk hlen HQ HCELL
  go_enter Tryz.func25, Tryz.ntmps25
  go_wp2_with fail
  refine LN.out.mono ?_
  rintro e w1 ⟨rfl, hw⟩
  obtain rfl : w = w1 := hw.symm
  clear LN
  go_wp2_with fail
  refine ND.out.mono ?_
  rintro e w1 ⟨rfl, h1⟩
  have H1 := qhid h1
  clear h1 ND
  go_wp2_with fail
  go_end0
  exact ⟨rfl, H1.out⟩
set_option maxRecDepth 100000 in
set_option maxHeartbeats 4000000 in
theorem node_alt {w0 : World} {q : Nat} {s : W4} {lo hi : Int} {z : Bool} {a b : Nat} {l : List Tr} {p : Option Addr} {cap : Nat} (hq : w0.heap[q]? = some (ndOb 5 s lo hi z (.slice p l.length cap) a b)) (hk : KidC w0 l p) (hln : l.length ≤ 1099511627776) : NodeC w0 (.mk 5 s lo hi z a b l) q := by
  intro g lb w hW hB hlen
  rw [prT_eq] at hlen ⊢
  have HPN : prN 5 s lo hi z (l.map prT) = joinP [124] (l.map prT) := rfl
  rw [HPN] at hlen ⊢
  clear HPN
  have LN := qhid (wr_len hW)
  have HWW := qhid hW
  have HB := qhid hB
  have hBs := hB.size
  have hql := Reg.size_of_get hq
  have hll : (lb.length : Int) ≤ 1048576 := by omega
  have hle : decide ((1048576 : Int) < (lb.length : Int)) = false := decide_eq_false (by omega)
  have HCELL : Hid (∀ X i, Below w0.heap.size w0 X → X.cell? ⟨q, i, none⟩ = w0.cell? ⟨q, i, none⟩) := qhid (fun X i hX => hX.cell (p := ⟨q, i, none⟩) hql)
  have HQ := qhid hq
  have n0 : w.cell? ⟨q, 0, none⟩ = some (.int .i64 5) := (HCELL.out w 0 hB).trans (by rw [Joins.cell_of_block hq 0]; rfl)
  have n8 : w.cell? ⟨q, 8, none⟩ = some (.slice p l.length cap) := (HCELL.out w 8 hB).trans (by rw [Joins.cell_of_block hq 8]; rfl)
  have ND := qhid (nodes_any [124] (cap := cap) hk g lb w hW hB hln hlen)
  generalize joinP [124] (l.map prT) = tx at *
  clear hW hB hq hk hlen HQ HCELL
  go_enter Tryz.func25, Tryz.ntmps25
  go_wp2_with fail
  refine LN.out.mono ?_
  rintro e w1 ⟨rfl, hw⟩
  obtain rfl : w = w1 := hw.symm
  clear LN
  go_wp2_with fail
  refine ND.out.mono ?_
  rintro e w1 ⟨rfl, h1⟩
  have H1 := qhid h1
  clear h1 ND
  go_wp2_with fail
  go_end0
  exact ⟨rfl, H1.out⟩
set_option maxRecDepth 100000 in
set_option maxHeartbeats 4000000 in
theorem node_rep {w0 : World} {q : Nat} {s : W4} {lo hi : Int} {z : Bool} {a b : Nat} {l : List Tr} {p : Option Addr} {cap : Nat} (hq : w0.heap[q]? = some (ndOb 6 s lo hi z (.slice p l.length cap) a b)) (hl : ∃ u r, l = u :: r) (hk : KidC w0 l p) (hc : I64 lo ∧ I64 hi) (hP : TabP w0) : NodeC w0 (.mk 6 s lo hi z a b l) q := by
  obtain ⟨u, r, rfl⟩ := hl
  intro g lb w hW hB hlen
  rw [prT_eq] at hlen ⊢
  have HPN : prN 6 s lo hi z ((u :: r).map prT) = prT u ++ cntN lo hi z := rfl
  rw [HPN] at hlen ⊢
  clear HPN
  have LN := qhid (wr_len hW)
  have HWW := qhid hW
  have HB := qhid hB
  have hBs := hB.size
  have hql := Reg.size_of_get hq
  have hll : (lb.length : Int) ≤ 1048576 := by omega
  have hle : decide ((1048576 : Int) < (lb.length : Int)) = false := decide_eq_false (by omega)
  have HCELL : Hid (∀ X i, Below w0.heap.size w0 X → X.cell? ⟨q, i, none⟩ = w0.cell? ⟨q, i, none⟩) := qhid (fun X i hX => hX.cell (p := ⟨q, i, none⟩) hql)
  have HQ := qhid hq
  have n0 : w.cell? ⟨q, 0, none⟩ = some (.int .i64 6) := (HCELL.out w 0 hB).trans (by rw [Joins.cell_of_block hq 0]; rfl)
  obtain ⟨c, q', rfl, hcl, hcell, hn⟩ := hk 0 u rfl
  have hl1 : 0 < (u :: r).length := by simp
  have n8 : w.cell? ⟨q, 8, none⟩ = some (.slice (some ⟨c, 0, none⟩) (u :: r).length cap) := (HCELL.out w 8 hB).trans (by rw [Joins.cell_of_block hq 8]; rfl)
  have c0 : w.cell? ⟨c, 0, none⟩ = some (ndPtr q') := (hB.cell (p := ⟨c, 0, none⟩) hcl).trans hcell
  rw [List.length_append] at hlen
  have NC := qhid (hn g lb w hW hB (by omega))
  have HC := qhid hc
  have HP0 := qhid hP
  have HC5 : Hid (∀ X, Below w0.heap.size w0 X → X.cell? ⟨q, 5, none⟩ = some (.int .i64 lo)) := qhid (fun X hX => (HCELL.out X 5 hX).trans (by rw [Joins.cell_of_block HQ.out 5]; rfl))
  have HC6 : Hid (∀ X, Below w0.heap.size w0 X → X.cell? ⟨q, 6, none⟩ = some (.int .i64 hi)) := qhid (fun X hX => (HCELL.out X 6 hX).trans (by rw [Joins.cell_of_block HQ.out 6]; rfl))
  have HC7 : Hid (∀ X, Below w0.heap.size w0 X → X.cell? ⟨q, 7, none⟩ = some (.bool z)) := qhid (fun X hX => (HCELL.out X 7 hX).trans (by rw [Joins.cell_of_block HQ.out 7]; rfl))
  generalize (u :: r).length = ln at *
  clear hW hB hq hk hc hn hcell hP HQ HCELL
  go_enter Tryz.func25, Tryz.ntmps25
  go_wp2_with fail
  refine LN.out.mono ?_
  rintro e w1 ⟨rfl, hw⟩
  obtain rfl : w = w1 := hw.symm
  clear LN
  go_wp2_with fail
  refine NC.out.mono ?_
  rintro e w2 ⟨rfl, hW2, hB2⟩
  have HW2 := qhid hW2
  have HB2 := qhid hB2
  have HBs := qhid (Nat.le_trans hBs hB2.size)
  have HLEN := qhid (show (lb ++ byN (prT u)).length + (cntN lo hi z).length ≤ 1099511627776 by rw [List.length_append, byN_length]; omega)
  have HTX : Hid (∀ X, Below w2.heap.size w2 X → TabP X) := qhid (fun X hX => HP0.out.below (HB.out.trans (HB2.out.trans (hX.mono HBs.out))) HP0.out.lt)
  have HXB : Hid (∀ X, Below w2.heap.size w2 X → Below w0.heap.size w0 X) := qhid (fun X hX => HB.out.trans (HB2.out.trans (hX.mono HBs.out)))
  obtain ⟨lc, hlc⟩ : ∃ lc, lc = lb ++ byN (prT u) := ⟨_, rfl⟩
  rw [← hlc] at HW2 HLEN
  have HLC := qhid hlc
  clear hW2 hB2 NC n8 c0 n0 hlc
  go_wp2_with fail
  refine Reg.wp_region_C (ndToldR g q lo hi z) (Reg.GenC 16 (fun X => Below w2.heap.size w2 X) (fun X => WrTo w0.heap.size g (lc ++ byN (cntN lo hi z)) w X)) [0, 1, 2, 3, 4, 5, 6, 7, 8, 9, 10, 11, 12, 13, 14, 15, 16] (by rfl) (by kernel_rfl) (by kernel_rfl) ?_ ?_ ?_
  · exact Reg.GenC.start _ _ (Below.drew (Below.refl _ _))
  · skip
    refine ⟨fun listed A X hI hcl hin hun hall => .inl ⟨Reg.wanted_none rfl, ?_⟩, ?_⟩
    · have e0 := hI.evo (d := 0) (by kernel_rfl) rfl
      have HS := hI.st
      clear hI hall hcl
      unfold Reg.Yields
      go_simp
      first | rfl | exact ⟨rfl, HS.up (by decide)⟩ | (refine ⟨?_, HS.up (by decide)⟩; simp [ndToldR])
    refine ⟨fun listed A X hI hcl hin hun hall => .inl ⟨Reg.wanted_none rfl, ?_⟩, ?_⟩
    · have e60 : A.tmps[60]? = some (.pointer (some ⟨g, 0, none⟩)) := hI.ev (i := 0) (d := 60) (by rfl) (hall ⟨0, .data⟩ (by simp) rfl)
      have HS := hI.st
      clear hI hall hcl
      unfold Reg.Yields
      go_simp
      first | rfl | exact ⟨rfl, HS.up (by decide)⟩ | (refine ⟨?_, HS.up (by decide)⟩; simp [ndToldR])
    refine ⟨fun listed A X hI hcl hin hun hall => .inl ⟨Reg.wanted_none rfl, ?_⟩, ?_⟩
    · have e61 : A.tmps[61]? = some (.pointer (some ⟨g, 0, none⟩)) := hI.ev (i := 1) (d := 61) (by rfl) (hall ⟨1, .data⟩ (by simp) rfl)
      have HS := hI.st
      clear hI hall hcl
      unfold Reg.Yields
      go_simp
      first | rfl | exact ⟨rfl, HS.up (by decide)⟩ | (refine ⟨?_, HS.up (by decide)⟩; simp [ndToldR])
    refine ⟨fun listed A X hI hcl hin hun hall => .inl ⟨Reg.wanted_none rfl, ?_⟩, ?_⟩
    · have e1 := hI.evo (d := 1) (by kernel_rfl) rfl
      have HS := hI.st
      clear hI hall hcl
      unfold Reg.Yields
      go_simp
      first | rfl | exact ⟨rfl, HS.up (by decide)⟩ | (refine ⟨?_, HS.up (by decide)⟩; simp [ndToldR])
    refine ⟨fun listed A X hI hcl hin hun hall => .inl ⟨Reg.wanted_none rfl, ?_⟩, ?_⟩
    · have e63 : A.tmps[63]? = some (ndPtr q) := hI.ev (i := 3) (d := 63) (by rfl) (hall ⟨3, .data⟩ (by simp) rfl)
      have HS := hI.st
      clear hI hall hcl
      unfold Reg.Yields
      go_simp
      first | rfl | exact ⟨rfl, HS.up (by decide)⟩ | (refine ⟨?_, HS.up (by decide)⟩; simp [ndToldR])
    refine ⟨fun listed A X hI hcl hin hun hall => .inl ⟨Reg.wanted_none rfl, ?_⟩, ?_⟩
    · have e64 : A.tmps[64]? = some (ndPtr q) := hI.ev (i := 4) (d := 64) (by rfl) (hall ⟨4, .data⟩ (by simp) rfl)
      have HS := hI.st
      clear hI hall hcl
      unfold Reg.Yields
      go_simp
      first | rfl | exact ⟨rfl, HS.up (by decide)⟩ | (refine ⟨?_, HS.up (by decide)⟩; simp [ndToldR])
    refine ⟨fun listed A X hI hcl hin hun hall => .inl ⟨Reg.wanted_none rfl, ?_⟩, ?_⟩
    · have e65 : A.tmps[65]? = some (.pointer (some ⟨q, 5, none⟩)) := hI.ev (i := 5) (d := 65) (by rfl) (hall ⟨5, .data⟩ (by simp) rfl)
      have HS := hI.st
      have hX := HS.at hcl (i := 6) (by kernel_rfl) (by simpa using hun)
      have c5 := HC5.out X (HXB.out X hX)
      clear hI hall hcl
      have HX := qhid hX
      clear hX
      unfold Reg.Yields
      go_simp
      first | rfl | exact ⟨rfl, HS.up (by decide)⟩ | (refine ⟨?_, HS.up (by decide)⟩; simp [ndToldR])
    refine ⟨fun listed A X hI hcl hin hun hall => .inl ⟨Reg.wanted_none rfl, ?_⟩, ?_⟩
    · have e1 := hI.evo (d := 1) (by kernel_rfl) rfl
      have HS := hI.st
      clear hI hall hcl
      unfold Reg.Yields
      go_simp
      first | rfl | exact ⟨rfl, HS.up (by decide)⟩ | (refine ⟨?_, HS.up (by decide)⟩; simp [ndToldR])
    refine ⟨fun listed A X hI hcl hin hun hall => .inl ⟨Reg.wanted_none rfl, ?_⟩, ?_⟩
    · have e67 : A.tmps[67]? = some (ndPtr q) := hI.ev (i := 7) (d := 67) (by rfl) (hall ⟨7, .data⟩ (by simp) rfl)
      have HS := hI.st
      clear hI hall hcl
      unfold Reg.Yields
      go_simp
      first | rfl | exact ⟨rfl, HS.up (by decide)⟩ | (refine ⟨?_, HS.up (by decide)⟩; simp [ndToldR])
    refine ⟨fun listed A X hI hcl hin hun hall => .inl ⟨Reg.wanted_none rfl, ?_⟩, ?_⟩
    · have e68 : A.tmps[68]? = some (ndPtr q) := hI.ev (i := 8) (d := 68) (by rfl) (hall ⟨8, .data⟩ (by simp) rfl)
      have HS := hI.st
      clear hI hall hcl
      unfold Reg.Yields
      go_simp
      first | rfl | exact ⟨rfl, HS.up (by decide)⟩ | (refine ⟨?_, HS.up (by decide)⟩; simp [ndToldR])
    refine ⟨fun listed A X hI hcl hin hun hall => .inl ⟨Reg.wanted_none rfl, ?_⟩, ?_⟩
    · have e69 : A.tmps[69]? = some (.pointer (some ⟨q, 6, none⟩)) := hI.ev (i := 9) (d := 69) (by rfl) (hall ⟨9, .data⟩ (by simp) rfl)
      have HS := hI.st
      have hX := HS.at hcl (i := 10) (by kernel_rfl) (by simpa using hun)
      have c6 := HC6.out X (HXB.out X hX)
      clear hI hall hcl
      have HX := qhid hX
      clear hX
      unfold Reg.Yields
      go_simp
      first | rfl | exact ⟨rfl, HS.up (by decide)⟩ | (refine ⟨?_, HS.up (by decide)⟩; simp [ndToldR])
    refine ⟨fun listed A X hI hcl hin hun hall => .inl ⟨Reg.wanted_none rfl, ?_⟩, ?_⟩
    · have e1 := hI.evo (d := 1) (by kernel_rfl) rfl
      have HS := hI.st
      clear hI hall hcl
      unfold Reg.Yields
      go_simp
      first | rfl | exact ⟨rfl, HS.up (by decide)⟩ | (refine ⟨?_, HS.up (by decide)⟩; simp [ndToldR])
    refine ⟨fun listed A X hI hcl hin hun hall => .inl ⟨Reg.wanted_none rfl, ?_⟩, ?_⟩
    · have e71 : A.tmps[71]? = some (ndPtr q) := hI.ev (i := 11) (d := 71) (by rfl) (hall ⟨11, .data⟩ (by simp) rfl)
      have HS := hI.st
      clear hI hall hcl
      unfold Reg.Yields
      go_simp
      first | rfl | exact ⟨rfl, HS.up (by decide)⟩ | (refine ⟨?_, HS.up (by decide)⟩; simp [ndToldR])
    refine ⟨fun listed A X hI hcl hin hun hall => .inl ⟨Reg.wanted_none rfl, ?_⟩, ?_⟩
    · have e72 : A.tmps[72]? = some (ndPtr q) := hI.ev (i := 12) (d := 72) (by rfl) (hall ⟨12, .data⟩ (by simp) rfl)
      have HS := hI.st
      clear hI hall hcl
      unfold Reg.Yields
      go_simp
      first | rfl | exact ⟨rfl, HS.up (by decide)⟩ | (refine ⟨?_, HS.up (by decide)⟩; simp [ndToldR])
    refine ⟨fun listed A X hI hcl hin hun hall => .inl ⟨Reg.wanted_none rfl, ?_⟩, ?_⟩
    · have e73 : A.tmps[73]? = some (.pointer (some ⟨q, 7, none⟩)) := hI.ev (i := 13) (d := 73) (by rfl) (hall ⟨13, .data⟩ (by simp) rfl)
      have HS := hI.st
      have hX := HS.at hcl (i := 14) (by kernel_rfl) (by simpa using hun)
      have c7 := HC7.out X (HXB.out X hX)
      clear hI hall hcl
      have HX := qhid hX
      clear hX
      unfold Reg.Yields
      go_simp
      first | rfl | exact ⟨rfl, HS.up (by decide)⟩ | (refine ⟨?_, HS.up (by decide)⟩; simp [ndToldR])
    refine ⟨fun listed A X hI hcl hin hun hall => .inl ⟨Reg.wanted_none rfl, ?_⟩, ?_⟩
    · have e66 : A.tmps[66]? = some (.int .i64 lo) := hI.ev (i := 6) (d := 66) (by rfl) (hall ⟨6, .data⟩ (by simp) rfl)
      have e70 : A.tmps[70]? = some (.int .i64 hi) := hI.ev (i := 10) (d := 70) (by rfl) (hall ⟨10, .data⟩ (by simp) rfl)
      have e74 : A.tmps[74]? = some (.bool z) := hI.ev (i := 14) (d := 74) (by rfl) (hall ⟨14, .data⟩ (by simp) rfl)
      have HS := hI.st
      have hX := HS.at hcl (i := 15) (by kernel_rfl) (by simpa using hun)
      clear hI hall
      have HX := qhid hX
      clear hX
      unfold Reg.Yields
      go_simp
      exact (pcount_any lo hi z HC.out.1 HC.out.2 X (HTX.out X HX.out)).mono fun e w'' ⟨he, hb⟩ => ⟨_, he, rfl, HS.step hcl (by kernel_rfl) (by simpa using hun) (by decide) (HX.out.trans (hb.mono HX.out.size))⟩
    refine ⟨fun listed A X hI hcl hin hun hall => .inl ⟨Reg.wanted_none rfl, ?_⟩, ?_⟩
    · have e62 : A.tmps[62]? = some (.pointer (some ⟨g, 0, none⟩)) := hI.ev (i := 2) (d := 62) (by rfl) (hall ⟨2, .data⟩ (by simp) rfl)
      have e75 : A.tmps[75]? = some (.string (baN (cntN lo hi z))) := hI.ev (i := 15) (d := 75) (by rfl) (hall ⟨15, .data⟩ (by simp) rfl)
      have HS := hI.st
      have hX := HS.ahead (by simpa using hun)
      clear hI hall hcl
      have HX := qhid hX
      clear hX
      unfold Reg.Yields
      go_simp
      exact (wr_write (cntN lo hi z) (HW2.out.up HX.out) HLEN.out).mono fun e w'' ⟨he, h1, h2⟩ => ⟨_, he, rfl, Reg.GenC.put hin ⟨h1, HB2.out.trans ((HX.out.mono HBs.out).trans h2)⟩⟩
    trivial
  · intro X hS
    have hR := hS.done (by rfl)
    clear hS
    simp [Reg.finalTmps, Reg.dstAt, Reg.valOf, ndToldR]
    have HR := qhid hR
    clear hR
    go_wp2_with fail
    go_end0
    refine ⟨rfl, ?_⟩
    have h := HR.out
    rw [HLC.out, List.append_assoc, ← byN_append] at h
    exact h
set_option maxRecDepth 100000 in
set_option maxHeartbeats 4000000 in
theorem node_other {w0 : World} {q : Nat} {k : Int} {s : W4} {lo hi : Int} {z : Bool} {a b : Nat} {l : List Tr} {p : Option Addr} {cap : Nat} (hq : w0.heap[q]? = some (ndOb k s lo hi z (.slice p l.length cap) a b)) (k1 : ¬ k = 1) (k2 : ¬ k = 2) (k3 : ¬ k = 3) (k4 : ¬ k = 4) (k5 : ¬ k = 5) (k6 : ¬ k = 6) : NodeC w0 (.mk k s lo hi z a b l) q := by
  intro g lb w hW hB hlen
  rw [prT_eq] at hlen ⊢
  have HPN : prN k s lo hi z (l.map prT) = [] := by unfold prN; rw [if_neg k1, if_neg k2, if_neg k3, if_neg k4, if_neg k5, if_neg k6]
  rw [HPN] at hlen ⊢
  clear HPN
  have LN := qhid (wr_len hW)
  have HWW := qhid hW
  have HB := qhid hB
  have hBs := hB.size
  have hql := Reg.size_of_get hq
  have hll : (lb.length : Int) ≤ 1048576 := by omega
  have hle : decide ((1048576 : Int) < (lb.length : Int)) = false := decide_eq_false (by omega)
  have HCELL : Hid (∀ X i, Below w0.heap.size w0 X → X.cell? ⟨q, i, none⟩ = w0.cell? ⟨q, i, none⟩) := qhid (fun X i hX => hX.cell (p := ⟨q, i, none⟩) hql)
  have HQ := qhid hq
  have n0 : w.cell? ⟨q, 0, none⟩ = some (.int .i64 k) := (HCELL.out w 0 hB).trans (by rw [Joins.cell_of_block hq 0]; rfl)
  have b1 : ((k : Int) == 1) = false := by simpa using k1
  have b2 : ((k : Int) == 2) = false := by simpa using k2
  have b3 : ((k : Int) == 3) = false := by simpa using k3
  have b4 : ((k : Int) == 4) = false := by simpa using k4
  have b5 : ((k : Int) == 5) = false := by simpa using k5
  have b6 : ((k : Int) == 6) = false := by simpa using k6
  clear hW hB hq k1 k2 k3 k4 k5 k6 hlen HQ HCELL
  go_enter Tryz.func25, Tryz.ntmps25
  go_wp2_with fail
  refine LN.out.mono ?_
  rintro e w1 ⟨rfl, hw⟩
  obtain rfl : w = w1 := hw.symm
  clear LN
  go_wp2_with fail
  go_end0
  refine ⟨rfl, ?_, Below.refl _ _⟩
  show WrAt _ _ (lb ++ []) _
  rw [List.append_nil]
  exact HWW.out
theorem node_any {w0 : World} (hT : Tab w0) (hP : TabP w0) {A : Nat → Prop} {t : Tr} (hw : WfT t) : ∀ (q : Nat), NdAt w0 A t (ndPtr q) → trSize t ≤ 1099511627776 → NodeC w0 t q := by
  induction hw with
  | node k s lo hi z a b l hs hl hc _ ih =>
    intro q hN hsz
    obtain ⟨q', p, cap, e, _, hq, hkid⟩ := hN.head
    injection e with e; injection e with e; injection e with e
    subst e
    have hts := trSize_eq (.mk k s lo hi z a b l)
    have hk : KidC w0 l p := by
      intro i t hti
      obtain ⟨c, v, h1, h2, h3, h4⟩ := hkid i t hti
      obtain ⟨c', rfl⟩ := h4.pointer
      have hm := trSize_mem (List.mem_of_getElem? hti)
      have hts' : trSize (.mk k s lo hi z a b l) = 1 + trSizes l := hts
      exact ⟨c, c', h1, h2, h3, ih i t hti c' h4 (by omega)⟩
    have hln : l.length ≤ 1099511627776 := by
      have := trSizes_len l
      have hts' : trSize (.mk k s lo hi z a b l) = 1 + trSizes l := hts
      omega
    by_cases k1 : k = 1
    · subst k1; exact node_set hq (hs rfl) hT
    by_cases k2 : k = 2
    · subst k2; exact node_cap hq (hl (by simp)) hk
    by_cases k3 : k = 3
    · subst k3; exact node_free hq (hl (by simp)) hk
    by_cases k4 : k = 4
    · subst k4; exact node_cat hq hk hln
    by_cases k5 : k = 5
    · subst k5; exact node_alt hq hk hln
    by_cases k6 : k = 6
    · subst k6; exact node_rep hq (hl (by simp)) hk (hc rfl) hP
    exact node_other hq k1 k2 k3 k4 k5 k6
end
end
section
section
open Go Go.RowKit
attribute [local go_sem ↓] Go.wp_at_zero Go.wp_at_succ
theorem wr_fresh (w : World) : WrAt w.heap.size w.heap.size [] (w.alloc (.cells #[.pointer none, .slice none 0 0] 64)) :=
  .inl ⟨Nat.le_refl _, .slice none 0 0, heap_new w _, ⟨by simp, .inl ⟨rfl, rfl⟩⟩, by simp [Value.ownBlock]⟩
/-- What Print asks of a tree. -/
structure PrOK (t : Tr) : Prop where
  wf : WfT t
  right : foldR rightN t ≤ 200
  size : trSize t ≤ 1099511000000
  len : (prT t).length ≤ 1048576
set_option maxRecDepth 100000 in
set_option maxHeartbeats 4000000 in
theorem print_any {A : Nat → Prop} {t : Tr} {q : Nat} (w : World) (hN : NdAt w A t (ndPtr q)) (hT : Tab w) (hP : TabP w) (ht : PrOK t) :
    Calls Tryz.prog 9 #[ndPtr q] w fun e w' => e = .returned (.tuple #[.string (baN (prT t)), .int .i64 0]) ∧ Below w.heap.size w w' := by
  have RI := qhid (sright_any A t q w hN ht.size)
  rw [decide_eq_true ht.right] at RI
  have hlen := ht.len
  have ND := qhid (fun (w1 : World) (hb : Below w.heap.size w w1) => node_any (w0 := w1) (hT.up hb) (hP.up hb) ht.wf q (hN.up hb) (by have := ht.size; omega))
  have HE : Hid (∀ X Y b, NodeC X t q → WrAt X.heap.size b [] Y → Below X.heap.size X Y → Calls Tryz.prog 25 #[.pointer (some ⟨b, 0, none⟩), ndPtr q] Y fun e w' => e = .returned (.tuple #[]) ∧ WrTo X.heap.size b (byN (prT t)) Y w') := qhid (fun X Y b h h1 h2 => by
    have := h b [] Y h1 h2 (by simpa using hlen)
    simpa using this)
  obtain ⟨l, hl⟩ : ∃ l, l = byN (prT t) := ⟨_, rfl⟩
  have hln : (l.length : Int) ≤ 1048576 := by rw [hl, byN_length]; omega
  have hle : decide ((1048576 : Int) < (l.length : Int)) = false := decide_eq_false (by omega)
  rw [show baN (prT t) = ⟨l.toArray⟩ by rw [hl]; rfl]
  rw [← hl] at HE
  clear hN hT hP ht hlen hl
  go_enter Tryz.func9, Tryz.ntmps9
  go_wp2_with fail
  refine RI.out.mono ?_
  rintro e w1 ⟨rfl, hb1⟩
  have NC := qhid (HE.out w1 _ _ (ND.out w1 hb1) (wr_fresh w1) (below1 w1 _))
  have HB1 := qhid hb1
  clear hb1 RI HE ND
  go_wp2_with fail
  refine NC.out.mono ?_
  rintro e w2 ⟨rfl, hW2, hB2⟩
  have LN := qhid (wr_len hW2)
  have hBs : w1.heap.size ≤ w2.heap.size := Nat.le_trans (below1 w1 _).size hB2.size
  have ST := qhid (bd_string w1.heap.size _ l w2 hW2 hBs)
  have HB2 := qhid (HB1.out.trans (((below1 w1 _).trans hB2).mono HB1.out.size))
  have HB1s := qhid HB1.out.size
  clear hW2 hB2 NC hBs
  go_wp2_with fail
  refine LN.out.mono ?_
  rintro e w3 ⟨rfl, hw⟩
  obtain rfl : w2 = w3 := hw.symm
  clear LN
  go_wp2_with fail
  refine ST.out.mono ?_
  rintro e w4 ⟨rfl, hb4⟩
  have HB4 := qhid (HB2.out.trans (hb4.mono HB1s.out))
  clear hb4
  go_wp2_with fail
  go_ret2
  exact ⟨rfl, HB4.out⟩
set_option maxHeartbeats 2000000 in
theorem print_bad (v : Value) (w : World) (hR : Calls Tryz.prog 24 #[v] w fun e w' => e = .returned (.bool false) ∧ Below w.heap.size w w') :
    Calls Tryz.prog 9 #[v] w fun e w' => e = .returned (.tuple #[.string ⟨#[]⟩, .int .i64 1]) ∧ Below w.heap.size w w' := by
  have RI := qhid hR
  clear hR
  go_enter Tryz.func9, Tryz.ntmps9
  go_wp2_with fail
  refine RI.out.mono ?_
  rintro e w1 ⟨rfl, hb1⟩
  have HB1 := qhid hb1
  clear hb1 RI
  go_wp2_with fail
  go_ret2
  exact ⟨rfl, HB1.out⟩
set_option maxHeartbeats 4000000 in
theorem normal_any (s : ByteArray) (t : Tr) (hs : s.size ≤ 1048576) (w : World) (hT : Tab w) (hP : TabP w) (hp : parseR s = (0, 0, some t)) (ht : PrOK t) :
    Calls Tryz.prog 20 #[.string s] w fun e w' => e = .returned (.tuple #[.string (baN (prT t)), .int .i64 0, .int .i64 0]) ∧ Below w.heap.size w w' := by
  have PA := qhid (parse_any s hs w hT)
  rw [hp] at PA
  have PR := qhid (fun w1 (hb : Below w.heap.size w w1) q (hN : NdAt w1 (fun b => w.heap.size ≤ b) t (ndPtr q)) => print_any w1 hN (hT.up hb) (hP.up hb) ht)
  generalize baN (prT t) = tx at *
  clear hT hP hp ht hs
  go_enter Tryz.func20, Tryz.ntmps20
  go_wp2_with fail
  refine PA.out.mono ?_
  rintro e w1 ⟨v, rfl, hv, hb⟩
  have hv : NdAt w1 (fun b => w.heap.size ≤ b) t v := hv
  obtain ⟨q, rfl⟩ := hv.pointer
  have P2 := qhid (PR.out w1 hb q hv)
  have HB := qhid hb
  clear hv hb PA PR
  go_wp2_with fail
  refine P2.out.mono ?_
  rintro e w2 ⟨rfl, hb2⟩
  have HB2 := qhid (HB.out.trans (hb2.mono HB.out.size))
  clear hb2 P2
  go_wp2_with fail
  exact bodyPost_ret (v := .tuple #[.string tx, .int .i64 0, .int .i64 0]) (by simp [results, Tryz.results20, go_sem]) rfl ⟨rfl, HB2.out⟩
/-- "(?:a|[b]){1,}". -/
def prExS : ByteArray := ⟨#[40, 63, 58, 97, 124, 91, 98, 93, 41, 123, 49, 44, 125]⟩
def prExT : Tr := .mk 6 noW 1 (-1) false 0 13 [.mk 3 noW 0 0 false 0 9 [.mk 5 noW 0 0 false 3 8 [.mk 1 (oneW 97) 0 0 false 3 4 [], .mk 1 (oneW 98) 0 0 false 5 8 []]]]
theorem prEx_is : parseR prExS = (0, 0, some prExT) := by kernel_rfl
theorem prEx_pr : baN (prT prExT) = ⟨#[40, 63, 58, 97, 124, 98, 41, 43]⟩ := by kernel_rfl
theorem wf_leaf (c a b : Nat) : WfT (.mk 1 (oneW c) 0 0 false a b []) := .node _ _ _ _ _ _ _ _ (fun _ => oneW_fit c) (fun h => by simp at h) (fun h => by simp at h) (fun i t h => by simp at h)
theorem prEx_ok : PrOK prExT := by
  refine ⟨?_, by decide +kernel, by decide +kernel, by decide +kernel⟩
  refine .node _ _ _ _ _ _ _ _ (fun h => by simp at h) (fun _ => ⟨_, _, rfl⟩) (fun _ => ⟨.small (by decide) (by decide), .small (by decide) (by decide)⟩) (fun i t h => ?_)
  obtain rfl : i = 0 := by have := (List.getElem?_eq_some_iff.1 h).1; simpa using this
  obtain rfl := Option.some.inj h
  refine .node _ _ _ _ _ _ _ _ (fun h => by simp at h) (fun _ => ⟨_, _, rfl⟩) (fun h => by simp at h) (fun i t h => ?_)
  obtain rfl : i = 0 := by have := (List.getElem?_eq_some_iff.1 h).1; simpa using this
  obtain rfl := Option.some.inj h
  refine .node _ _ _ _ _ _ _ _ (fun h => by simp at h) (fun h => by simp at h) (fun h => by simp at h) (fun i t h => ?_)
  match i, h with
  | 0, h => obtain rfl := Option.some.inj h; exact wf_leaf 97 3 4
  | 1, h => obtain rfl := Option.some.inj h; exact wf_leaf 98 5 8
  | i + 2, h => simp at h
set_option maxRecDepth 100000 in
set_option maxHeartbeats 2000000 in
theorem pr_awake (w : World) (hT : Tab w) (hP : TabP w) : Calls Tryz.prog 7 #[] w fun e w' => e = .returned (.bool true) ∧ Below w.heap.size w w' := by
  have NO := qhid (normal_any prExS prExT (by decide) w hT hP prEx_is prEx_ok)
  rw [prEx_pr] at NO
  clear hT hP
  go_enter Tryz.func7, Tryz.ntmps7
  go_wp2_with fail
  refine NO.out.mono ?_
  rintro e w1 ⟨rfl, hb⟩
  have HB := qhid hb
  clear hb NO
  go_wp2_with fail
  go_ret
  exact ⟨rfl, HB.out⟩
end
end
end Go.Proofs.YtenibhmjcafbiaaGreatDoor
