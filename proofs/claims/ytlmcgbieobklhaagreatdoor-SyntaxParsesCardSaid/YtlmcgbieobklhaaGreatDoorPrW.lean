/- A part of the proof. -/
import Derived.Test.YtlmcgbieobklhaaGreatDoorTb
import Derived.Test.YtlmcgbieobklhaaGreatDoorRegionY
import Derived.LoopTactic
import Derived.Test.YtlmcgbieobklhaaGreatDoorRa
import Derived.Deep.QuietTactic
import Derived.BigQuiet
import Derived.Test.YtlmcgbieobklhaaGreatDoorTa
import Derived.Lib.Strings
import Derived.Lib.Slices
import Derived.Lib.Builder
import Derived.Lib.AppendStr
import Derived.Lib.UnsafeStr
import Derived.Laws.Externs
import Derived.Laws.IdiomCopy
import Derived.Laws.BitsLemmas
import Derived.Shelf.Strconv.Itoa3
import Derived.Lib.ItoaNum
import Derived.Lib.ItoaMem
import Derived.Lib.ItoaLen
import Derived.Test.YtlmcgbieobklhaaGreatDoorRegionC
import Derived.Test.YtlmcgbieobklhaaGreatDoorPbH
import Derived.Test.YtlmcgbieobklhaaGreatDoorPbO
namespace Go.Proofs.YtlmcgbieobklhaaGreatDoor.Reg
open Go Go.RowKit
section
variable {ops : Array Oper}
structure GenC (n : Nat) (R0 R1 : World -> Prop) (l : Array Bool) (X : World) : Prop where
 ahead : l.getD n false = false -> R0 X
 done : l.getD n false = true -> R1 X
theorem GenC.not {n i : Nat} {R0 R1 : World -> Prop} {l : Array Bool} {X : World} (_h : GenC n R0 R1 l X) (hcl : ClosedL ops l) (hr : reach ops 30 n i = true) (hun : l.getD i false = false) : l.getD n false = false := by
 cases e : l.getD n false with
 | false => rfl
 | true => rw [closed_reach hcl _ _ _ hr e] at hun;cases hun
theorem GenC.at {n i : Nat} {R0 R1 : World -> Prop} {l : Array Bool} {X : World} (h : GenC n R0 R1 l X) (hcl : ClosedL ops l) (hr : reach ops 30 n i = true) (hun : l.getD i false = false) : R0 X :=
 h.ahead (h.not hcl hr hun)
theorem GenC.up {n i : Nat} {R0 R1 : World -> Prop} {l : Array Bool} {X : World} (h : GenC n R0 R1 l X) (hi : i ≠ n) : GenC n R0 R1 (l.setIfInBounds i true) X := by
 refine ⟨fun e => ?_,fun e => ?_⟩
 ·rw [getD_set_ne false hi] at e;exact h.ahead e
 ·rw [getD_set_ne false hi] at e;exact h.done e
theorem GenC.put {n : Nat} {R0 R1 : World -> Prop} {l : Array Bool} {Y : World} (hin : n < l.size) (hR : R1 Y) : GenC n R0 R1 (l.setIfInBounds n true) Y := by
 refine ⟨fun e => ?_,fun _ => hR⟩;rw [set_self hin] at e;cases e
theorem GenC.start {n k : Nat} {X : World} (R0 R1 : World -> Prop) (h : R0 X) : GenC n R0 R1 (Array.replicate k false) X :=
 ⟨fun _ => h,fun e => by simp [Array.getD_eq_getD_getElem?,Array.getElem?_replicate] at e;split at e <;> simp_all⟩
end
end Go.Proofs.YtlmcgbieobklhaaGreatDoor.Reg
namespace Go.Proofs.YtlmcgbieobklhaaGreatDoor
section
section
open Go Go.RowKit
end
section
open Go Go.RowKit
attribute [local go_sem ↓] Go.wp_at_zero Go.wp_at_succ
attribute [local go_sem] eq4
end
section
open Go Go.RowKit
end
section
open Go Go.RowKit
attribute [local go_sem ↓] Go.wp_at_zero Go.wp_at_succ
attribute [local go_sem] eq4
def pairVals (rs : List (Nat × Nat)) : List Value := rs.flatMap fun p => [.int .u8 (p.1 : Int),.int .u8 (p.2 : Int)]
def GR (w : World) (rs : List (Nat × Nat)) (c0 c1 c2 c3 : Int) (vl : Value) (wr : World) : Prop :=
 wr.heap[w.heap.size]? = some (.cells #[.int .u64 c0,.int .u64 c1,.int .u64 c2,.int .u64 c3] 29) /\ wr.ownsRow (w.heap.size + 1) 206 2 vl rs.length (pairVals rs) /\ Below w.heap.size w wr /\ w.heap.size + 1 <= wr.heap.size
end
end
section
section
open Go Go.RowKit
def hexN (n : Nat) : Nat := if n < 10 then 48 + n else 87 + n
def alnB (b : Nat) : Bool := decide (97 <= b) && decide (b <= 122) || decide (65 <= b) && decide (b <= 90) || decide (48 <= b) && decide (b <= 57)
def plainB (b : Nat) : Bool := [32,33,34,35,37,38,39,44,58,59,60,61,62,64,95,126,96].contains b
def brN (b : Nat) : List Nat := if alnB b || plainB b then [b] else if themB b then [92,b] else [92,120,hexN (b / 16),hexN (b % 16)]
def rsT : List (Nat × Nat) -> List Nat
 | [] => []
 | p :: r => brN p.1 ++ ((if p.1 = p.2 then [] else 45 :: brN p.2) ++ rsT r)
def clsN (rs : List (Nat × Nat)) : List Nat := 91 :: (rsT rs ++ [93])
def rsD (f : Nat -> Bool) : Nat -> List (Nat × Nat)
 | 0 => []
 | k + 1 => if f (255 - k) then (match rsD f k with
   | [] => [(255 - k,255 - k)]
   | p :: r => if p.1 = 256 - k then (255 - k,p.2) :: r else (255 - k,255 - k) :: p :: r) else rsD f k
def rsOf (f : Nat -> Bool) : List (Nat × Nat) := rsD f 256
def setN (t : W4) : List Nat := if eqW t (notW (oneW 10)) then [46] else match ones t with
 | [] => [91,94,92,120,48,48,45,92,120,102,102,93]
 | [b] => brN b
 | _ => clsN (rsOf t.mem)
def rgT (p : Nat × Nat) : List Nat := brN p.1 ++ (if p.1 = p.2 then [] else 45 :: brN p.2)
theorem rsT_cons (p : Nat × Nat) (r : List (Nat × Nat)) : rsT (p :: r) = rgT p ++ rsT r := by
 show brN p.1 ++ ((if p.1 = p.2 then [] else 45 :: brN p.2) ++ rsT r) = (brN p.1 ++ (if p.1 = p.2 then [] else 45 :: brN p.2)) ++ rsT r
 rw [List.append_assoc]
def baN (l : List Nat) : ByteArray := ⟨(l.map Nat.toUInt8).toArray⟩
theorem baN_size (l : List Nat) : (baN l).size = l.length := by
 show (l.map Nat.toUInt8).toArray.size = _
 simp
end
end
section
section
open Go Go.RowKit
attribute [local go_sem ↓] Go.wp_at_zero Go.wp_at_succ
theorem below_quiet (w : World) (n : Nat) : Below w.heap.size w (w.drewN n) := ⟨rfl,rfl,rfl,jN _,fun _ _ => rfl⟩
end
end
section
section
open Go Go.RowKit
attribute [local go_sem ↓] Go.wp_at_zero Go.wp_at_succ
attribute [local go_sem] eq4
theorem br_le (b : Nat) : (brN b).length <= 4 := by
 unfold brN
 split
 ·simp
 ·split <;> simp
theorem rsT_le : ∀ rs : List (Nat × Nat),(rsT rs).length <= 9 * rs.length
 | [] => by simp [rsT]
 | p :: r => by
  have h1 := br_le p.1;have h2 := br_le p.2;have := rsT_le r;rw [rsT_cons];unfold rgT
  split <;> simp <;> omega
end
end
section
section
open Go Go.RowKit
end
end
section
section
open Go Go.RowKit
attribute [local go_sem ↓] Go.wp_at_zero Go.wp_at_succ
def I64 (n : Int) : Prop := -9223372036854775808 <= n /\ n <= 9223372036854775807
theorem I64.small {n : Int} (h0 : -1000000 <= n) (h1 : n <= 1000000) : I64 n := ⟨by omega,by omega⟩
def itS (n : Int) : ByteArray := ⟨(Lib.itoa n).toArray⟩
def itN (n : Int) : List Nat := (Lib.itoa n).map UInt8.toNat
theorem itS_eq (n : Int) : itS n = baN (itN n) := by
 unfold itS itN baN;rw [List.map_map];congr 2;have : (Nat.toUInt8 ∘ UInt8.toNat) = id := by funext x;simp
 rw [this,List.map_id]
theorem itS_size {n : Int} (h : I64 n) : (itS n).size <= 21 := by
 have := Lib.itoa_length_le n h.1 h.2
 show (Lib.itoa n).toArray.size <= 21
 simpa using this
def timesN (lo hi : Int) : List Nat :=
 if lo == 0 && hi == -1 then [42] else if lo == 1 && hi == -1 then [43] else if lo == 0 && hi == 1 then [63] else if hi == -1 then 123 :: (itN lo ++ [44,125]) else if lo == hi then 123 :: (itN lo ++ [125]) else 123 :: (itN lo ++ 44 :: (itN hi ++ [125]))
def rcN (lo hi : Int) (z : Bool) : List Nat := timesN lo hi ++ (if z then [63] else [])
theorem timesN_len {lo hi : Int} (hlo : I64 lo) (hhi : I64 hi) : (timesN lo hi).length <= 45 := by
 have s1 := itS_size hlo;have s2 := itS_size hhi;rw [itS_eq,baN_size] at s1 s2;unfold timesN
 repeat' split
 all_goals simp
 all_goals omega
theorem rcN_len {lo hi : Int} (z : Bool) (hlo : I64 lo) (hhi : I64 hi) : (rcN lo hi z).length <= 46 := by
 have := timesN_len hlo hhi;unfold rcN
 cases z <;> simp <;> omega
end
end
section
section
open Go Go.RowKit
def joinP (sep : List Nat) : List (List Nat) -> List Nat
 | [] => []
 | p :: r => p ++ r.flatMap fun x => sep ++ x
def prN (k : Int) (s : W4) (lo hi : Int) (z : Bool) (ps : List (List Nat)) : List Nat :=
 if k = 1 then setN s else if k = 2 then 40 :: (ps.headD [] ++ [41]) else if k = 3 then 40 :: 63 :: 58 :: (ps.headD [] ++ [41]) else if k = 4 then joinP [] ps else if k = 5 then joinP [124] ps
 else if k = 6 then ps.headD [] ++ rcN lo hi z else []
mutual
def prT : Tr -> List Nat
 | .mk k s lo hi z _ _ l => prN k s lo hi z (prTs l)
def prTs : List Tr -> List (List Nat)
 | [] => []
 | t :: r => prT t :: prTs r
end
theorem prTs_map : ∀ l : List Tr,prTs l = l.map prT
 | [] => rfl
 | t :: r => by rw [prTs,prTs_map r];rfl
theorem prT_eq (k : Int) (s : W4) (lo hi : Int) (z : Bool) (a b : Nat) (l : List Tr) : prT (.mk k s lo hi z a b l) = prN k s lo hi z (l.map prT) := by rw [prT,prTs_map]
inductive WfT : Tr -> Prop
 | node (k : Int) (s : W4) (lo hi : Int) (z : Bool) (a b : Nat) (l : List Tr) (hs : k = 1 -> s.fit) (hl : k = 2 \/ k = 3 \/ k = 6 -> ∃ u r,l = u :: r) (hc : k = 6 -> I64 lo /\ I64 hi) (ht : ∀ (i : Nat) (t : Tr),l[i]? = some t -> WfT t) : WfT (.mk k s lo hi z a b l)
end
section
open Go Go.RowKit
attribute [local go_sem ↓] Go.wp_at_zero Go.wp_at_succ
end
end
section
section
open Go Go.RowKit
attribute [local go_sem ↓] Go.wp_at_zero Go.wp_at_succ
attribute [local go_sem] eq4
end
end
section
section
open Go Go.RowKit
attribute [local go_sem ↓] Go.wp_at_zero Go.wp_at_succ
structure PrOK (t : Tr) : Prop where
 wf : WfT t
 right : foldR rightN t <= 200
 size : trSize t <= 1099511000000
 len : (prT t).length <= 1048576
end
end
end Go.Proofs.YtlmcgbieobklhaaGreatDoor
