/- The library's slices.Backward over nodes: what its closure hands on, round by round, for every loop body that keeps what lay ahead. -/
import Derived.RangeFuncNested
import Derived.RangeFuncBound
import Derived.RangeFuncCalls
import Derived.RangeFuncLeaves
import Derived.Shelf.Abstract
import Derived.Shelf.RegionOpen
import Derived.WalkKit
import Derived.OwnWalkIn
import Derived.TacticsInMore
import Derived.LoopNIn
import Derived.LoopIn
import Derived.Lib.Hide
import Derived.Test.YtlmcgbieobklhaaGreatDoorProg
namespace Go.Proofs.YtlmcgbieobklhaaGreatDoor
section
open Go Go.RowKit Go.Shelf
attribute [local go_sem] Oper.semAt_some
/-- What has come when k rounds are over: the last element first. -/
def downN (qs : Nat → Nat) (len k : Nat) : List (Nat × Nat) := (List.range k).map fun j => (len - 1 - j, qs (len - 1 - j))
theorem downN_succ (qs : Nat → Nat) (len k : Nat) : downN qs len (k + 1) = downN qs len k ++ [(len - 1 - k, qs (len - 1 - k))] := by simp [downN, List.range_succ]
theorem downN_length (qs : Nat → Nat) (len k : Nat) : (downN qs len k).length = k := by simp [downN]
/-- What the rounds of a range over slices.Backward's value must keep: the box of the slice, and the block that holds what is handed on. -/
def KeepB (Bs b : Nat) (W W' : World) : Prop := W'.heap[Bs]? = W.heap[Bs]? ∧ W'.heap[b]? = W.heap[b]?
theorem KeepB.refl (Bs b : Nat) (W : World) : KeepB Bs b W W := ⟨rfl, rfl⟩
theorem KeepB.trans {Bs b : Nat} {A B C : World} (h : KeepB Bs b A B) (k : KeepB Bs b B C) : KeepB Bs b A C := ⟨k.1.trans h.1, k.2.trans h.2⟩
theorem keepB_b {Bs b : Nat} {w : World} (hBs : Bs < w.heap.size) (hb : b < w.heap.size) (W : World) (l : Nat) (o o' : Obj) (hl : w.heap.size ≤ l) (h : W.heap[l]? = some o) (_ : o.isCells = false) (_ : o.isWalk = false) : KeepB Bs b W (W.putObj l o') := by
  have hlt := (Array.getElem?_eq_some_iff.1 h).1
  exact ⟨(grownBy_putObj' W l o').block Bs (by omega) (fun e => by injection e; omega), (grownBy_putObj' W l o').block b (by omega) (fun e => by injection e; omega)⟩
set_option maxRecDepth 100000 in
set_option maxHeartbeats 2000000 in
theorem back1_in (F : Fence) (n : Nat) (h7 : F.fn 97) (hro : F.round = none) (hn : 1 ≤ n) (l Bs b len cap : Nat) (qs : Nat → Nat) (hreach : len ≤ 1099511627776) (J Jx : List (Nat × Nat) → World → Prop)
    (hY : ∀ pre x W, J pre W → pre.length < len → YieldAt F (n - 1) Tryz.prog l #[.int .i64 (x.1 : Int), .pointer (some ⟨x.2, 0, none⟩)] W fun e W' =>
      (e = .returned (.bool true) ∧ J (pre ++ [x]) W' ∧ KeepB Bs b W W') ∨ (e = .returned (.bool false) ∧ Jx (pre ++ [x]) W'))
    (W : World) (hBs : W.cell? ⟨Bs, 0, none⟩ = some (.slice (some ⟨b, 0, none⟩) len cap)) (hc : ∀ j, j < len → W.cell? ⟨b, j, none⟩ = some (.pointer (some ⟨qs j, 0, none⟩))) (h0 : J [] W) :
    CallsIn F n Tryz.prog 97 #[.func (.yield l) #[] #[], .pointer (some ⟨Bs, 0, none⟩)] W fun e W' => (∃ v, e = .returned v) ∧
      ((∃ ys, ys = downN qs len len ∧ J ys W') ∨ (∃ pre, (∃ k, k ≤ len ∧ pre = downN qs len k) ∧ Jx pre W')) := by
  refine callsIn_of_wp Tryz.func97 rfl h7 ?_ hro
  simp only [Tryz.ntmps97, List.size_toArray, List.length_cons, List.length_nil, Nat.reduceAdd, Nat.reduceSub, Array.replicate_succ, Array.replicate_zero, List.push_toArray, List.append_toArray, List.nil_append, List.cons_append]
  gi_wp2
  gi_loopw [3] (fun i wr => ∃ m : Nat, m ≤ len ∧ i = .int .i64 ((m : Int) - 1) ∧ J (downN qs len (len - m)) wr ∧ KeepB Bs b W wr)
    (fun i _ => (intOf i + 1).toNat)
  case atStart => exact ⟨len, Nat.le_refl _, rfl, by rw [Nat.sub_self]; exact h0, KeepB.refl _ _ _⟩
  case round =>
    obtain ⟨m, hm, rfl, hJs, hnx⟩ := hrel
    have hBsx : wr.cell? ⟨Bs, 0, none⟩ = some (.slice (some ⟨b, 0, none⟩) len cap) := (World.cell?_of_block (w := W) (a := ⟨Bs, 0, none⟩) hnx.1).trans hBs
    cases m with
    | zero =>
      rw [show (((0 : Nat) : Int) - 1) = -1 from rfl]
      gi_wp2
      go_end0
      exact ⟨⟨_, rfl⟩, .inl ⟨_, by rw [Nat.sub_zero], hJs⟩⟩
    | succ m =>
      rw [show (((m + 1 : Nat) : Int) - 1) = (m : Int) by omega]
      have hcx : wr.cell? ⟨b, m, none⟩ = some (.pointer (some ⟨qs m, 0, none⟩)) := (World.cell?_of_block (w := W) (a := ⟨b, m, none⟩) hnx.2).trans (hc m (by omega))
      obtain ⟨fn, tmps, assign, body, hy, hR⟩ := hY _ (m, qs m) wr hJs (by rw [downN_length]; omega)
      dsimp only at hy
      have e1 : downN qs len (len - (m + 1)) ++ [(m, qs m)] = downN qs len (len - m) := by
        rw [show len - m = (len - (m + 1)) + 1 by omega, downN_succ, show len - 1 - (len - (m + 1)) = m by omega]
      have HNX := Lib.hid hnx
      clear hnx
      gi_wp2
      refine hR.mono ?_
      rintro e W3 (⟨rfl, hJ3, hk3⟩ | ⟨rfl, hJx3⟩)
      · have HK3 := Lib.hid hk3
        clear hk3
        gi_wp2
        go_roundw
        case rel => exact ⟨m, by omega, by go_num, by rw [← e1]; exact hJ3, HNX.out.trans HK3.out⟩
        case measure => simp [intOf]; try omega
      · gi_wp2
        refine bodyPost_ret (results_none rfl _ _ _) rfl ?_
        exact ⟨⟨_, rfl⟩, .inr ⟨_, ⟨len - m, by omega, e1⟩, hJx3⟩⟩
set_option maxHeartbeats 1000000 in
/-- .. of a slice of no length: no round. -/
theorem back1_nil_in (F : Fence) (n : Nat) (h7 : F.fn 97) (hro : F.round = none) (l Bs : Nat) (p : Option Addr) (cap : Nat) (J : List (Nat × Nat) → World → Prop) (W : World) (hBs : W.cell? ⟨Bs, 0, none⟩ = some (.slice p 0 cap)) (h0 : J [] W) :
    CallsIn F n Tryz.prog 97 #[.func (.yield l) #[] #[], .pointer (some ⟨Bs, 0, none⟩)] W fun e W' => (∃ v, e = .returned v) ∧ J [] W' := by
  refine callsIn_of_wp Tryz.func97 rfl h7 ?_ hro
  simp only [Tryz.ntmps97, List.size_toArray, List.length_cons, List.length_nil, Nat.reduceAdd, Nat.reduceSub, Array.replicate_succ, Array.replicate_zero, List.push_toArray, List.append_toArray, List.nil_append, List.cons_append]
  gi_wp2
  gi_loopw [3] (fun i wr => i = .int .i64 (-1) ∧ J [] wr) (fun _ _ => 0)
  case atStart => exact ⟨rfl, h0⟩
  case round =>
    obtain ⟨rfl, hJs⟩ := hrel
    gi_wp2
    go_end0
    exact ⟨⟨_, rfl⟩, hJs⟩
set_option maxHeartbeats 1000000 in
/-- slices.Backward: the slice is boxed, the function value captures the box. -/
theorem back_in (F : Fence) (n : Nat) (h5 : F.fn 66) (hro : F.round = none) (a : Option Addr) (len cap : Nat) (w : World) :
    CallsIn F n Tryz.prog 66 #[.slice a len cap] w fun e w' => e = .returned (.func (.func 97) #[] #[.pointer (some ⟨w.heap.size, 0, none⟩)]) ∧ w' = w.alloc (.cells #[.slice a len cap] 58) := by
  refine callsIn_of_wp Tryz.func66 rfl h5 ?_ hro
  simp only [Tryz.ntmps66, List.size_toArray, List.length_cons, List.length_nil, Nat.reduceAdd, Nat.reduceSub, Array.replicate_succ, Array.replicate_zero, List.push_toArray, List.append_toArray, List.nil_append, List.cons_append]
  gi_wp2
  go_ret
  exact ⟨rfl, rfl⟩
/-- slices.Backward's value hands on all, the last one first, each with its place. -/
theorem back_stops (F : Fence) (n : Nat) (h7 : F.fn 97) (hro : F.round = none) (hn : 1 ≤ n) (Bs b : Nat) (p : Option Addr) (cap : Nat) (qs : List Nat) (hreach : qs.length ≤ 1099511627776) (w : World) (hBs : Bs < w.heap.size) (hb : b < w.heap.size)
    (hc : w.cell? ⟨Bs, 0, none⟩ = some (.slice p qs.length cap)) (hI : ∀ j, j < qs.length → p = some ⟨b, 0, none⟩ ∧ w.cell? ⟨b, j, none⟩ = some (.pointer (some ⟨qs.getD j 0, 0, none⟩))) :
    SeqStopsK F n Tryz.prog 97 #[.pointer (some ⟨Bs, 0, none⟩)] (fun x : Nat × Nat => #[Value.int .i64 (x.1 : Int), .pointer (some ⟨x.2, 0, none⟩)]) (KeepB Bs b) (fun ys => ys = downN (fun j => qs.getD j 0) qs.length qs.length) (fun pre => ∃ k, k ≤ qs.length ∧ pre = downN (fun j => qs.getD j 0) qs.length k) qs.length w := fun l J Jx W hW _ _ hY h0 => by
  have hc' := (hW.cell (p := ⟨Bs, 0, none⟩) hBs).trans hc
  rcases Nat.eq_zero_or_pos qs.length with h | h
  · obtain rfl : qs = [] := List.eq_nil_of_length_eq_zero h
    exact (back1_nil_in F n h7 hro l Bs p cap J W hc' h0).mono fun e W' ⟨he, hj⟩ => ⟨he, .inl ⟨_, rfl, hj⟩⟩
  · obtain rfl := (hI 0 h).1
    refine (back1_in F n h7 hro hn l Bs b qs.length cap (fun j => qs.getD j 0) hreach J Jx hY W hc' (fun j hj => (hW.cell (p := ⟨b, j, none⟩) hb).trans (hI j hj).2) h0).mono ?_
    rintro e W' ⟨he, ⟨ys, rfl, hj⟩ | ⟨pre, hk, hj⟩⟩
    · exact ⟨he, .inl ⟨_, rfl, hj⟩⟩
    · exact ⟨he, .inr ⟨_, hk, hj⟩⟩
end
end Go.Proofs.YtlmcgbieobklhaaGreatDoor
