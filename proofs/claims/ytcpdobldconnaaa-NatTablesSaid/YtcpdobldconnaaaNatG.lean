/- Contracts for tables: a sum of rows. -/
import Derived.Test.YtcpdobldconnaaaNatF
import Derived.LoopTactic
import Derived.Deep.RegionHeld3
import Derived.Deep.DrawnRows
import Derived.Lib.SmallJoins
import Derived.Laws.MakeOwn
import Derived.StillTailTactics
import Derived.OwnWalk
namespace Go.Proofs.Ytcpdobldconnaaa
open Go Go.RowKit
attribute [local go_sem ↓] Go.wp_at_zero Go.wp_at_succ
theorem heap_new' (w : World) (o : Obj) : (w.alloc o).heap[w.heap.size]? = some o := by
  show (w.heap.push o)[w.heap.size]? = _
  simp
theorem below1' (w : World) (a : Obj) : Below w.heap.size w (w.alloc a) := (Below.refl _ _).alloc (Nat.le_refl _) _
/-- The first n of f, as cells. -/
def il (n : Nat) (f : Nat → Int) : Array Value := ((List.range n).map fun i => Value.int .i64 (f i)).toArray
/-- Place k of the sum of the first j rows. -/
def com (z : Nat → Int) (L : Nat → Nat) (Z : Nat → Nat → Int) (k : Nat) : Nat → Int
  | 0 => 0
  | j + 1 => if k < L j then pl (com z L Z k j) (ti (z j) (Z j k)) else com z L Z k j
theorem il_at (n : Nat) (f : Nat → Int) (k : Nat) (h : k < n) : (il n f)[k]? = some (.int .i64 (f k)) := by
  unfold il; simp [h]
theorem il_congr {n : Nat} {f g : Nat → Int} (h : ∀ i, i < n → f i = g i) : il n f = il n g := by
  unfold il
  congr 1
  exact List.map_congr_left fun i hi => by rw [h i (List.mem_range.1 hi)]
theorem il_size (n : Nat) (f : Nat → Int) : (il n f).size = n := by unfold il; simp
theorem il_set (n : Nat) (f : Nat → Int) (k : Nat) (v : Int) : (il n f).setIfInBounds k (.int .i64 v) = il n (fun i => if i = k then v else f i) := by
  apply Array.ext_getElem?
  intro i
  by_cases hi : i < n
  · by_cases hik : k = i
    · subst hik
      rw [il_at _ _ _ hi]
      have : k < (il n f).size := by rw [il_size]; exact hi
      simp [this]
    · rw [Array.getElem?_setIfInBounds_ne hik, il_at _ _ _ hi, il_at _ _ _ hi, if_neg (Ne.symm hik)]
  · have h1 : ((il n f).setIfInBounds k (.int .i64 v))[i]? = none := by
      apply Array.getElem?_eq_none; simp [il_size]; omega
    have h2 : (il n (fun i => if i = k then v else f i))[i]? = none := by
      apply Array.getElem?_eq_none; simp [il_size]; omega
    rw [h1, h2]
theorem Try.infoInt : (Try.prog.info? 3).map (fun i => (i.zero, i.size, i.bytes)) = some (some (.int .i64 0), 1, 8) := by kernel_rfl
theorem made_ints (W : Nat) : madeCells #[.int .i64 0] W = il W fun _ => 0 := by
  apply Array.ext_getElem?
  intro i
  by_cases hi : i < W
  · rw [il_at _ _ _ hi]
    unfold madeCells
    simp [hi, Nat.mod_one]
  · rw [Array.getElem?_eq_none (by rw [size_madeCells]; omega), Array.getElem?_eq_none (by rw [il_size]; omega)]
theorem mk_ints (W : Nat) (hW : W ≤ 1000) (w : World) : (Instr.makeSlice 42 (.int .i64 (W : Int)) (.int .i64 (W : Int))).run Try.prog w = .ok (.slice (some ⟨w.heap.size, 0, none⟩) W W) (w.alloc (.cells (il W fun _ => 0) 3)) := by
  obtain ⟨i0, hi, hz0, hz1, hz2⟩ := info_parts Try.infoInt
  have h := run_make (P := Try.prog) w 42 3 i0 _ Try.underlying42 hi hz0 .i64 .i64 W W (by omega) (by omega) (by rw [hz2]; omega) (by omega)
  rw [h, hz1]
  simp only [Int.toNat_natCast, Nat.mul_one]
  rw [← made_ints]
  rfl
/-- Place i of the sum when k places of row j are added to the first j rows. -/
def comk (z : Nat → Int) (L : Nat → Nat) (Z : Nat → Nat → Int) (j k i : Nat) : Int := if i < k then com z L Z i (j + 1) else com z L Z i j
theorem com_le (z : Nat → Int) (L : Nat → Nat) (Z : Nat → Nat → Int) (i j : Nat) : com z L Z i j ≤ top := by
  induction j with
  | zero => simp [com, top]
  | succ j ih =>
    rw [com]
    split
    · exact pl_le _ _
    · exact ih
theorem comk_zero (z : Nat → Int) (L : Nat → Nat) (Z : Nat → Nat → Int) (j : Nat) : (comk z L Z j 0) = fun i => com z L Z i j := by
  funext i; unfold comk; rw [if_neg (by omega)]
theorem comk_all (z : Nat → Int) (L : Nat → Nat) (Z : Nat → Nat → Int) (j : Nat) : comk z L Z j (L j) = fun i => com z L Z i (j + 1) := by
  funext i; unfold comk
  split
  · rfl
  · rename_i h; rw [com, if_neg h]
theorem comk_step (z : Nat → Int) (L : Nat → Nat) (Z : Nat → Nat → Int) (j k : Nat) (h : k < L j) : (fun i => if i = k then pl (com z L Z k j) (ti (z j) (Z j k)) else comk z L Z j k i) = comk z L Z j (k + 1) := by
  funext i
  unfold comk
  by_cases e : i = k
  · subst e
    rw [if_pos rfl, if_pos (by omega)]
    show _ = if i < L j then _ else _
    rw [if_pos h]
  · rw [if_neg e]
    by_cases hi : i < k
    · rw [if_pos hi, if_pos (by omega)]
    · rw [if_neg hi, if_neg (by omega)]
/-- What holds of memory while a sum of rows is made. -/
def CRel (w : World) (W : Nat) (f : Nat → Int) (wr : World) : Prop := wr.heap[w.heap.size]? = some (.cells (il W f) 3) ∧ Below w.heap.size w wr
theorem CRel.set {w : World} {W : Nat} {f : Nat → Int} {wr : World} (h : CRel w W f wr) (k : Nat) (v : Int) : CRel w W (fun i => if i = k then v else f i) (wr.setCell ⟨w.heap.size, k, none⟩ (.int .i64 v)) :=
  ⟨by rw [← il_set]; exact Joins.block_setCell h.1 _, h.2.setCell (Nat.le_refl _) _⟩
theorem CRel.drew {w : World} {W : Nat} {f : Nat → Int} {wr : World} (h : CRel w W f wr) : CRel w W f wr.drew := ⟨h.1, h.2.drew⟩
set_option maxHeartbeats 4000000 in
theorem combine_any (p q : Option Addr) (n m c c' W : Nat) (z : Nat → Int) (A : Nat → Option Addr) (L C : Nat → Nat) (Z : Nat → Nat → Int) (w : World) (hz : RowAt w p n z) (hr : RowsAt w q m A L C Z) (hW : W ≤ 1000) (hL : ∀ j, j < m → L j ≤ W) :
    Calls Try.prog 50 #[.slice p n c, .slice q m c', .int .i64 (W : Int)] w fun e w' => e = .returned (.slice (some ⟨w.heap.size, 0, none⟩) W W) ∧ CRel w W (fun k => com z L Z k (min n m)) w' := by
  have hmk := mk_ints W hW
  obtain ⟨hn, hx⟩ := hz
  obtain ⟨hm, hy⟩ := hr
  have HX := nhid hx
  have HY := nhid hy
  have HL := nhid hL
  clear hx hy hL
  obtain ⟨N, hN⟩ : ∃ N, min n m = N := ⟨_, rfl⟩
  have hNn : N ≤ n := by omega
  have hNm : N ≤ m := by omega
  rw [hN]
  have hc : (m < n ∧ N = m) ∨ (¬ m < n ∧ N = n) := by omega
  clear hN
  rcases hc with ⟨hc, hN⟩ | ⟨hc, hN⟩
  all_goals
    have HN := nhid hN
    clear hN
    go_enter Try.func50, Try.ntmps50
    go_wp2_with fail
    clear hmk
    go_loopw [18] (fun i wr => ∃ j : Nat, j ≤ N ∧ i = .int .i64 j ∧ CRel w W (fun i => com z L Z i j) wr) (fun i _ => N - (intOf i).toNat)
    case atStart => exact ⟨0, by omega, rfl, heap_new' _ _, below1' _ _⟩
    case round =>
      obtain ⟨j, hj, rfl, hw⟩ := hrel
      have HW := nhid hw
      clear hw
      by_cases hlt : j < N
      · obtain ⟨g, o, rfl, hg, hx⟩ := HX.out.resolve_left (by omega)
        obtain ⟨g2, o2, rfl, hg2, hy⟩ := HY.out.resolve_left (by omega)
        have hcx : wr.cell? ⟨g, o + j, none⟩ = some (.int .i64 (z j)) := (HW.out.2.cell (p := ⟨g, o + j, none⟩) hg).trans (hx j (by omega)).1
        have hcy : wr.cell? ⟨g2, o2 + j, none⟩ = some (.slice (A j) (L j) (C j)) := (HW.out.2.cell (p := ⟨g2, o2 + j, none⟩) hg2).trans (hy j (by omega)).1
        have TX := nhid (hx j (by omega)).2
        have hrow := (hy j (by omega)).2.2
        have hlj := (hy j (by omega)).2.1
        have HR := nhid hrow
        have hLW := HL.out j (by omega)
        have HHX := nhid hx
        have hkn : (j : Int) < n := by omega
        have hkm : (j : Int) < m := by omega
        have k0 : (0 : Int) ≤ (j : Int) := by omega
        clear hx hy HX HY hrow
        go_wp2_with fail
        go_loopw [9, 10, 26] (fun _ _ i wr => ∃ k : Nat, k ≤ L j ∧ i = .int .i64 k ∧ CRel w W (comk z L Z j k) wr) (fun _ _ i _ => L j - (intOf i).toNat)
        case atStart =>
          refine ⟨0, by omega, rfl, ?_⟩
          rw [comk_zero]
          exact HW.out
        case round =>
          clear HW hcx hcy
          obtain ⟨k, hk, rfl, hw⟩ := hrel
          have HW := nhid hw
          clear hw
          by_cases hkl : k < L j
          · obtain ⟨g3, o3, hA, hg3, hzr⟩ := HR.out.resolve_left (by omega)
            have hc3 : wr.cell? ⟨g3, o3 + k, none⟩ = some (.int .i64 (Z j k)) := (HW.out.2.cell (p := ⟨g3, o3 + k, none⟩) hg3).trans (hzr k hkl).1
            have hcx : wr.cell? ⟨g, o + j, none⟩ = some (.int .i64 (z j)) := (HW.out.2.cell (p := ⟨g, o + j, none⟩) hg).trans (HHX.out j (by omega)).1
            have hcs : wr.cell? ⟨w.heap.size, k, none⟩ = some (.int .i64 (com z L Z k j)) := (Joins.cell_of_block HW.out.1 k).trans ((il_at _ _ _ (by omega)).trans (by unfold comk; rw [if_neg (by omega)]))
            have hfz := Joins.unfrozen_of_block HW.out.1 k
            have TZ := nhid (hzr k hkl).2
            have HS := nhid (comk_step z L Z j k hkl)
            have hkW : (k : Int) < W := by omega
            have hk0 : (0 : Int) ≤ (k : Int) := by omega
            have hkL : (k : Int) < (L j : Int) := by omega
            clear hzr HR
            simp only [hA]
            clear hA
            go_wp2_with fail
            go_still_tail 14, (by kernel_rfl)
            still_call (times_q _ _ _ TX.out TZ.out)
            repeat still_step
            still_call (plus_any _ _ _ (com_le z L Z k j) (ti_le _ _))
            repeat still_step
            refine wpStill_nil ?_
            have HW2 := nhid (HW.out.drew.set k (pl (com z L Z k j) (ti (z j) (Z j k))))
            rw [HS.out] at HW2
            clear hc3 hcx
            go_wp2
            exact ⟨⟨k + 1, by omega, by go_num, HW2.out⟩, by simp [intOf]; omega⟩
          · have e1 : k = L j := by omega
            subst e1
            have HW2 := HW.out
            rw [comk_all] at HW2
            have HW3 := nhid HW2
            clear HW2
            go_wp2
            exact ⟨⟨j + 1, by omega, by go_num, HW3.out⟩, by simp [intOf]; omega⟩
      · have e1 : j = N := by omega
        have e2 := HN.out
        subst e1
        subst e2
        go_wp2
        go_ret
        exact ⟨rfl, HW.out⟩
end Go.Proofs.Ytcpdobldconnaaa
