/- A part of the proof. -/
import Derived.Test.YtihoefibfhccfaaGreatDoorJn
import Derived.Test.YtihoefibfhccfaaGreatDoorTb
import Derived.Test.YtihoefibfhccfaaGreatDoorRegion
import Derived.LoopTactic
import Derived.Test.YtihoefibfhccfaaGreatDoorRa
import Derived.Deep.QuietTactic
import Derived.BigQuiet
import Derived.Test.YtihoefibfhccfaaGreatDoorTa
import Derived.Lib.Strings
import Derived.Lib.Slices
import Derived.Lib.Builder
import Derived.Lib.AppendStr
import Derived.Lib.UnsafeStr
import Derived.Laws.Externs
import Derived.Laws.IdiomCopy
import Derived.Laws.BitsLemmas
import Derived.Shelf.Strconv.Itoa3
import Derived.Lib.ItoaNum
import Derived.Lib.ItoaMem
import Derived.Lib.ItoaLen
import Derived.Test.YtihoefibfhccfaaGreatDoorPbH
import Derived.Test.YtihoefibfhccfaaGreatDoorPbU
import Derived.LaidSub
import Derived.Lay
namespace Go.Proofs.YtihoefibfhccfaaGreatDoor
section
section
open Go Go.RowKit
def sh {α : Type} (d : Nat) (r : α × Int × Nat) : α × Int × Nat := (r.1,r.2.1,d + r.2.2)
theorem sh_mk {α : Type} (d : Nat) (t : α) (e : Int) (j : Nat) : sh d (t,e,j) = (t,e,d + j) := rfl
theorem dlen_hi {q S : ByteArray} {d : Nat} (h : ∀ i,bAt S (d + i) = bAt q i) : ∀ n a,dlen S (d + a) n = dlen q a n := by
 intro n
 induction n with
 | zero => intro a;rfl
 | succ n ih => intro a;unfold dlen;rw [h,Nat.add_assoc,ih]
theorem nval_hi {q S : ByteArray} {d : Nat} (h : ∀ i,bAt S (d + i) = bAt q i) (a : Nat) : ∀ i,nval S (d + a) i = nval q a i := by
 intro i
 induction i with
 | zero => rfl
 | succ i ih => unfold nval;rw [ih,Nat.add_assoc,h]
theorem dall_hi {q S : ByteArray} {d : Nat} (h : ∀ i,bAt S (d + i) = bAt q i) (hs : S.size = d + q.size) (a : Nat) : dall S (d + a) = dall q a := by
 unfold dall;rw [hs,show d + q.size - (d + a) = q.size - a by omega,dlen_hi h]
theorem numR_hi {q S : ByteArray} {d : Nat} (h : ∀ i,bAt S (d + i) = bAt q i) (hs : S.size = d + q.size) (a : Nat) : numR S (d + a) = sh d (numR q a) := by
 unfold numR;rw [dall_hi h hs,nval_hi h];simp only [apply_ite (sh d),sh_mk,Nat.add_assoc]
theorem mostR_hi {q S : ByteArray} {d : Nat} (h : ∀ i,bAt S (d + i) = bAt q i) (hs : S.size = d + q.size) (lo : Int) (a : Nat) : mostR S lo (d + a) = sh d (mostR q lo a) := by
 unfold mostR;rw [numR_hi h hs,h];simp only [apply_ite (sh d),sh_mk];rfl
theorem countR_hi {q S : ByteArray} {d : Nat} (h : ∀ i,bAt S (d + i) = bAt q i) (lo hi : Int) (a : Nat) : countR S lo hi (d + a) = sh d (countR q lo hi a) := by
 unfold countR;simp only [Nat.add_assoc,h,apply_ite (sh d),sh_mk]
theorem shutR_hi {q S : ByteArray} {d : Nat} (h : ∀ i,bAt S (d + i) = bAt q i) (lo hi : Int) (a : Nat) : shutR S lo hi (d + a) = sh d (shutR q lo hi a) := by
 unfold shutR;rw [h,Nat.add_assoc,countR_hi h];simp only [apply_ite (sh d),sh_mk]
theorem bracesR_hi {q S : ByteArray} {d : Nat} (h : ∀ i,bAt S (d + i) = bAt q i) (hs : S.size = d + q.size) (k : Nat) : bracesR S (d + k) = sh d (bracesR q k) := by
 unfold bracesR;obtain ⟨⟨x,c,j⟩,hr⟩ : ∃ r,numR q (k + 1) = r := ⟨_,rfl⟩;have e : numR S (d + k + 1) = (x,c,d + j) := by rw [Nat.add_assoc,numR_hi h hs,hr];rfl
 obtain ⟨⟨y,c2,j2⟩,hm⟩ : ∃ r,mostR q x (j + 1) = r := ⟨_,rfl⟩;have e2 : mostR S x (d + j + 1) = (y,c2,d + j2) := by rw [Nat.add_assoc,mostR_hi h hs,hm];rfl
 rw [e,hr];dsimp only;rw [e2,hm,h,shutR_hi h,shutR_hi h];dsimp only
 by_cases h0 : c ≠ 0
 ·rw [if_pos h0,if_pos h0];rfl
 ·rw [if_neg h0,if_neg h0]
  by_cases h44 : bAt q j = 44
  ·rw [if_pos h44,if_pos h44]
   by_cases h1 : c2 ≠ 0
   ·rw [if_pos h1,if_pos h1];rfl
   ·rw [if_neg h1,if_neg h1]
  ·rw [if_neg h44,if_neg h44]
theorem openR_hi {q S : ByteArray} {d : Nat} (h : ∀ i,bAt S (d + i) = bAt q i) (k : Nat) : openR S (d + k) = sh d (openR q k) := by
 unfold openR;simp only [Nat.add_assoc,h,apply_ite (sh d),sh_mk]
theorem signR_hi {q S : ByteArray} {d : Nat} (h : ∀ i,bAt S (d + i) = bAt q i) (k : Nat) : signR S (d + k) = sh d (signR q k) := by
 unfold signR;rw [h,Nat.add_assoc,countR_hi h,countR_hi h,countR_hi h];simp only [apply_ite (sh d)]
theorem pairR_hi {q S : ByteArray} {d : Nat} (h : ∀ i,bAt S (d + i) = bAt q i) (j : Nat) : pairR S (d + j) = sh d (pairR q j) := by
 unfold pairR;have e : hexV S (d + j) 2 = hexV q j 2 := by simp only [hexV,Nat.add_assoc,h]
 rw [e];simp only [Nat.add_assoc,h,apply_ite (sh d),sh_mk]
theorem escR_hi {q S : ByteArray} {d : Nat} (h : ∀ i,bAt S (d + i) = bAt q i) (hs : S.size = d + q.size) (k : Nat) : escR S (d + k) = sh d (escR q k) := by
 unfold escR;rw [hs,Nat.add_assoc,h,Nat.add_assoc,pairR_hi h];simp only [show (d + q.size <= d + (k + 1)) = (q.size <= k + 1) by simp,apply_ite (sh d),sh_mk]
theorem partR_hi {q S : ByteArray} {d : Nat} (h : ∀ i,bAt S (d + i) = bAt q i) (hs : S.size = d + q.size) (k : Nat) : partR S (d + k) = sh d (partR q k) := by
 unfold partR;rw [hs,h,escR_hi h hs];simp only [show (d + q.size <= d + k) = (q.size <= k) by simp,apply_ite (sh d),sh_mk,Nat.add_assoc]
theorem toR_hi {q S : ByteArray} {d : Nat} (h : ∀ i,bAt S (d + i) = bAt q i) (hs : S.size = d + q.size) (k a j : Nat) : toR S (d + k) a (d + j) = sh d (toR q k a j) := by
 unfold toR;obtain ⟨⟨t,c,i⟩,hr⟩ : ∃ r,partR q j = r := ⟨_,rfl⟩;have e : partR S (d + j) = (t,c,d + i) := by rw [partR_hi h hs,hr];rfl
 rw [e,hr];dsimp only
 by_cases h0 : c ≠ 0
 ·rw [if_pos h0,if_pos h0];rfl
 ·rw [if_neg h0,if_neg h0]
  cases onlyW t with
  | none => rfl
  | some b =>
   dsimp only
   by_cases hb : b < a
   ·rw [if_pos hb,if_pos hb];rfl
   ·rw [if_neg hb,if_neg hb];rfl
theorem itemR_hi {q S : ByteArray} {d : Nat} (h : ∀ i,bAt S (d + i) = bAt q i) (hs : S.size = d + q.size) (k : Nat) : itemR S (d + k) = sh d (itemR q k) := by
 unfold itemR;obtain ⟨⟨t,c,i⟩,hr⟩ : ∃ r,partR q k = r := ⟨_,rfl⟩;have e : partR S (d + k) = (t,c,d + i) := by rw [partR_hi h hs,hr];rfl
 rw [e,hr];dsimp only;rw [h]
 by_cases h0 : c ≠ 0 \/ bAt q i ≠ 45
 ·rw [if_pos h0,if_pos h0];rfl
 ·rw [if_neg h0,if_neg h0]
  cases onlyW t with
  | none => rfl
  | some b => dsimp only;rw [Nat.add_assoc,toR_hi h hs]
theorem clsR_hi {q S : ByteArray} {d : Nat} (h : ∀ i,bAt S (d + i) = bAt q i) (hs : S.size = d + q.size) : ∀ (n : Nat) (t : W4) (e : Int) (i : Nat),clsR S n t e (d + i) = sh d (clsR q n t e i) := by
 intro n
 induction n with
 | zero => intro t e i;rfl
 | succ n ih =>
  intro t e i;unfold clsR;obtain ⟨⟨t2,c,i2⟩,hr⟩ : ∃ r,itemR q i = r := ⟨_,rfl⟩;have e2 : itemR S (d + i) = (t2,c,d + i2) := by rw [itemR_hi h hs,hr];rfl
  rw [e2,hr];dsimp only;rw [h,ih]
  by_cases h0 : e ≠ 0
  ·rw [if_pos h0,if_pos h0];rfl
  ·rw [if_neg h0,if_neg h0]
   by_cases h93 : bAt q i = 93
   ·rw [if_pos h93,if_pos h93];rfl
   ·rw [if_neg h93,if_neg h93]
theorem clsR_more {s : ByteArray} : ∀ (n m : Nat) (t : W4) (e : Int) (i : Nat),t.fit -> (e = 0 \/ e = 4 \/ e = 5 \/ e = 6) -> i <= s.size -> 1 <= n -> 1 <= m -> (e = 0 -> s.size + 2 <= n + i) -> (e = 0 -> s.size + 2 <= m + i) -> clsR s n t e i = clsR s m t e i := by
 intro n
 induction n with
 | zero => intro m t e i _ _ _ h;omega
 | succ n ih =>
  intro m t e i ht he hi _ hm hn hm2;obtain ⟨m,rfl⟩ : ∃ x,m = x + 1 := ⟨m - 1,by omega⟩
  by_cases h0 : e ≠ 0
  ·rw [clsR,if_pos h0,clsR,if_pos h0]
  ·have h0' : e = 0 := by simpa using h0
   have hn' := hn h0';have hm' := hm2 h0'
   by_cases h93 : bAt s i = 93
   ·rw [clsR,if_neg h0,if_pos h93,clsR,if_neg h0,if_pos h93]
   ·have hit := itemR_set hi;rw [clsR,if_neg h0,if_neg h93,clsR,if_neg h0,if_neg h93];exact ih _ _ _ _ (uni2_fit _ _) hit.err hit.le (by omega) (by omega) (fun e => by have := hit.on e;omega) (fun e => by have := hit.on e;omega)
theorem clsFrom_more {s : ByteArray} {i n : Nat} (hi : i <= s.size) (hn : s.size + 2 <= n) : clsR s n (itemR s i).1 (itemR s i).2.1 (itemR s i).2.2 = clsFrom s i := by
 have hit := itemR_set hi;exact clsR_more _ _ _ _ _ hit.fit hit.err hit.le (by omega) (by omega) (fun _ => by omega) (fun _ => by omega)
theorem clsFrom_hi {q S : ByteArray} {d : Nat} (h : ∀ i,bAt S (d + i) = bAt q i) (hs : S.size = d + q.size) {i : Nat} (hi : i <= q.size) : clsFrom S (d + i) = sh d (clsFrom q i) := by
 have e := clsFrom_more (s := q) (i := i) (n := S.size + 2) hi (by omega);rw [<- e,<- clsR_hi h hs];unfold clsFrom;rw [itemR_hi h hs];rfl
theorem classR_hi {q S : ByteArray} {d : Nat} (h : ∀ i,bAt S (d + i) = bAt q i) (hs : S.size = d + q.size) {k : Nat} (hk : k < q.size) : classR S (d + k) = sh d (classR q k) := by
 unfold classR
 by_cases h94 : bAt q (k + 1) = 94
 ·have hi := in_of_bAt h94 (by omega);obtain ⟨⟨t,c,i⟩,hr⟩ : ∃ r,clsFrom q (k + 2) = r := ⟨_,rfl⟩;have e : clsFrom S (d + k + 2) = (t,c,d + i) := by rw [Nat.add_assoc,clsFrom_hi h hs (by omega),hr];rfl
  rw [Nat.add_assoc d k 1,h,if_pos h94,if_pos h94,e,hr];dsimp only
  by_cases h0 : c ≠ 0
  ·rw [if_pos h0,if_pos h0];rfl
  ·rw [if_neg h0,if_neg h0];rfl
 ·rw [Nat.add_assoc,h,if_neg h94,if_neg h94,clsFrom_hi h hs (by omega)]
theorem setR_hi {q S : ByteArray} {d : Nat} (h : ∀ i,bAt S (d + i) = bAt q i) (hs : S.size = d + q.size) {k : Nat} (hk : k < q.size) : setR S (d + k) = sh d (setR q k) := by
 unfold setR;rw [h,classR_hi h hs hk,escR_hi h hs];simp only [apply_ite (sh d),sh_mk,Nat.add_assoc]
theorem tokenR_hi {q S : ByteArray} {d : Nat} (h : ∀ i,bAt S (d + i) = bAt q i) (hs : S.size = d + q.size) {k : Nat} (hk : k < q.size) : tokenR S (d + k) = sh d (tokenR q k) := by
 unfold tokenR;obtain ⟨⟨t,c,i⟩,hr⟩ : ∃ r,setR q k = r := ⟨_,rfl⟩;have e : setR S (d + k) = (t,c,d + i) := by rw [setR_hi h hs hk,hr];rfl
 rw [h,e,hr,openR_hi h,signR_hi h,bracesR_hi h hs];simp only [apply_ite (sh d),sh_mk,Nat.add_assoc]
end
section
open Go Go.RowKit
end
end
end Go.Proofs.YtihoefibfhccfaaGreatDoor
namespace Go.Proofs.YtihoefibfhccfaaGreatDoor.Reg
section
open Go Go.RowKit
section
variable {ops : Array Oper}
structure GenC (n : Nat) (R0 R1 : World -> Prop) (l : Array Bool) (X : World) : Prop where
 ahead : l.getD n false = false -> R0 X
 done : l.getD n false = true -> R1 X
theorem GenC.not {n i : Nat} {R0 R1 : World -> Prop} {l : Array Bool} {X : World} (_h : GenC n R0 R1 l X) (hcl : ClosedL ops l) (hr : reach ops 30 n i = true) (hun : l.getD i false = false) : l.getD n false = false := by
 cases e : l.getD n false with
 | false => rfl
 | true => rw [closed_reach hcl _ _ _ hr e] at hun;cases hun
theorem GenC.at {n i : Nat} {R0 R1 : World -> Prop} {l : Array Bool} {X : World} (h : GenC n R0 R1 l X) (hcl : ClosedL ops l) (hr : reach ops 30 n i = true) (hun : l.getD i false = false) : R0 X :=
 h.ahead (h.not hcl hr hun)
theorem GenC.up {n i : Nat} {R0 R1 : World -> Prop} {l : Array Bool} {X : World} (h : GenC n R0 R1 l X) (hi : i ≠ n) : GenC n R0 R1 (l.setIfInBounds i true) X := by
 refine ⟨fun e => ?_,fun e => ?_⟩
 ·rw [getD_set_ne false hi] at e;exact h.ahead e
 ·rw [getD_set_ne false hi] at e;exact h.done e
theorem GenC.step {n i : Nat} {R0 R1 : World -> Prop} {l : Array Bool} {X Y : World} (h : GenC n R0 R1 l X) (hcl : ClosedL ops l) (hr : reach ops 30 n i = true) (hun : l.getD i false = false) (hi : i ≠ n) (hY : R0 Y) : GenC n R0 R1 (l.setIfInBounds i true) Y := by
 refine ⟨fun _ => hY,fun e => ?_⟩;rw [getD_set_ne false hi,h.not hcl hr hun] at e
 cases e
theorem GenC.put {n : Nat} {R0 R1 : World -> Prop} {l : Array Bool} {Y : World} (hin : n < l.size) (hR : R1 Y) : GenC n R0 R1 (l.setIfInBounds n true) Y := by
 refine ⟨fun e => ?_,fun _ => hR⟩;rw [set_self hin] at e;cases e
theorem GenC.start {n k : Nat} {X : World} (R0 R1 : World -> Prop) (h : R0 X) : GenC n R0 R1 (Array.replicate k false) X :=
 ⟨fun _ => h,fun e => by simp [Array.getD_eq_getD_getElem?,Array.getElem?_replicate] at e;split at e <;> simp_all⟩
end
end
end Go.Proofs.YtihoefibfhccfaaGreatDoor.Reg
namespace Go.Proofs.YtihoefibfhccfaaGreatDoor
section
section
section
section
open Go Go.RowKit
def kTok (k : Int) : TokM := ⟨k,noW,0,0,false⟩
inductive TkS : TokM -> Prop
 | set (s : W4) (h : s.fit) : TkS ⟨0,s,0,0,false⟩
 | cap : TkS (kTok 1)
 | free : TkS (kTok 2)
 | shut : TkS (kTok 3)
 | bar : TkS (kTok 4)
 | count (lo hi : Int) (z : Bool) (h : countedR lo hi = true) : TkS ⟨5,noW,lo,hi,z⟩
theorem counted_iff {lo hi : Int} : countedR lo hi = true ↔ 0 <= lo /\ lo <= countM hi /\ countM hi <= 1000 := by
 unfold countedR;simp
end
end
section
section
open Go Go.RowKit
theorem tr_ind {P : Tr -> Prop} (h : ∀ k s lo hi z a b l,(∀ t ∈ l,P t) -> P (.mk k s lo hi z a b l)) (t : Tr) : P t := by
 have key : ∀ n t,trSize t <= n -> P t := by
  intro n
  induction n with
  | zero => intro t ht;have := trSize_pos t;omega
  | succ n ih =>
   intro t ht;obtain ⟨k,s,lo,hi,z,a,b,l⟩ := t;refine h k s lo hi z a b l fun u hu => ih u ?_
   have h1 := trSize_mem hu;have h2 := trSize_eq (.mk k s lo hi z a b l);have h3 : trSize (.mk k s lo hi z a b l) = 1 + trSizes l := h2;omega
 exact key _ t (jN _)
def joinA {α : Type} (sep : List α) : List (List α) -> List α
 | [] => []
 | p :: r => p ++ r.flatMap fun x => sep ++ x
theorem joinA_two {α : Type} (sep p q : List α) (r : List (List α)) : joinA sep (p :: q :: r) = p ++ (sep ++ joinA sep (q :: r)) := by
 simp [joinA]
theorem joinA_flat {α : Type} : ∀ l : List (List α),joinA [] l = l.flatten
 | [] => rfl
 | p :: r => by simp [joinA,List.flatMap_def]
def tkN (k : Int) (s : W4) (lo hi : Int) (z : Bool) (ls : List (List TokM)) : List TokM :=
 if k = 1 then [⟨0,s,0,0,false⟩] else if k = 2 then kTok 1 :: (ls.headD [] ++ [kTok 3]) else if k = 3 then kTok 2 :: (ls.headD [] ++ [kTok 3]) else if k = 4 then joinA [] ls else if k = 5 then joinA [kTok 4] ls
 else if k = 6 then ls.headD [] ++ [⟨5,noW,lo,hi,z⟩] else []
mutual
def tkT : Tr -> List TokM
 | .mk k s lo hi z _ _ l => tkN k s lo hi z (tkTs l)
def tkTs : List Tr -> List (List TokM)
 | [] => []
 | t :: r => tkT t :: tkTs r
def bare : Tr -> Tr
 | .mk k s lo hi z _ _ l => .mk k s lo hi z 0 0 (bares l)
def bares : List Tr -> List Tr
 | [] => []
 | t :: r => bare t :: bares r
def dpT : Tr -> Nat
 | .mk k _ _ _ _ _ _ l => (if k = 2 \/ k = 3 then 1 else 0) + dpTs l
def dpTs : List Tr -> Nat
 | [] => 0
 | t :: r => max (dpT t) (dpTs r)
end
theorem tkTs_map : ∀ l : List Tr,tkTs l = l.map tkT
 | [] => rfl
 | t :: r => by rw [tkTs,tkTs_map r];rfl
theorem bares_map : ∀ l : List Tr,bares l = l.map bare
 | [] => rfl
 | t :: r => by rw [bares,bares_map r];rfl
theorem dpTs_mem : ∀ {l : List Tr} {t : Tr},t ∈ l -> dpT t <= dpTs l
 | u :: r,t,h => by
  rw [dpTs]
  rcases List.mem_cons.1 h with rfl | h
  ·omega
  ·have := dpTs_mem h;omega
theorem dpTs_le : ∀ {l : List Tr} {c : Nat},(∀ t ∈ l,dpT t <= c) -> dpTs l <= c
 | [],c,_ => Nat.zero_le _
 | u :: r,c,h => by
  rw [dpTs];have h1 := h u (List.mem_cons_self ..);have h2 := dpTs_le (l := r) (fun t ht => h t (List.mem_cons_of_mem _ ht));omega
theorem tkT_eq (k : Int) (s : W4) (lo hi : Int) (z : Bool) (a b : Nat) (l : List Tr) : tkT (.mk k s lo hi z a b l) = tkN k s lo hi z (l.map tkT) := by rw [tkT,tkTs_map]
theorem bare_eq (k : Int) (s : W4) (lo hi : Int) (z : Bool) (a b : Nat) (l : List Tr) : bare (.mk k s lo hi z a b l) = .mk k s lo hi z 0 0 (l.map bare) := by rw [bare,bares_map]
def IsSingle (t : Tr) : Prop := kdT t = 1 \/ kdT t = 2 \/ kdT t = 3
def IsItem (t : Tr) : Prop := kdT t = 1 \/ kdT t = 2 \/ kdT t = 3 \/ kdT t = 6
inductive RtT : Tr -> Prop
 | empty (a b : Nat) : RtT (.mk 0 noW 0 0 false a b [])
 | set (s : W4) (a b : Nat) (h : s.fit) : RtT (.mk 1 s 0 0 false a b [])
 | group (k : Int) (a b : Nat) (u : Tr) (hk : k = 2 \/ k = 3) (h : RtT u) : RtT (.mk k noW 0 0 false a b [u])
 | cat (a b : Nat) (l : List Tr) (hl : 2 <= l.length) (hi : ∀ t,t ∈ l -> IsItem t) (h : ∀ t,t ∈ l -> RtT t) : RtT (.mk 4 noW 0 0 false a b l)
 | alt (a b : Nat) (l : List Tr) (hl : 2 <= l.length) (hi : ∀ t,t ∈ l -> kdT t ≠ 5) (h : ∀ t,t ∈ l -> RtT t) : RtT (.mk 5 noW 0 0 false a b l)
 | rep (lo hi : Int) (z : Bool) (a b : Nat) (u : Tr) (hc : countedR lo hi = true) (hu : IsSingle u) (h : RtT u) : RtT (.mk 6 noW lo hi z a b [u])
def mt (L : Toks) : List TokM := L.map (·.1)
theorem mt_cons {L : Toks} {i : Nat} {x : TokM} {r : List TokM} (h : (mt L).drop i = x :: r) : kdR L i = x.kind /\ tkR L i = x /\ i < L.length /\ (mt L).drop (i + 1) = r := by
 have hlt : i < L.length := by
  rcases Nat.lt_or_ge i L.length with h' | h'
  ·exact h'
  ·rw [List.drop_eq_nil_of_le (by unfold mt;simpa using h')] at h;cases h
 have h1 : (mt L)[i]? = some x := by rw [<- List.head?_drop,h];rfl
 have h2 : ∃ y,L[i]? = some y /\ y.1 = x := by
  unfold mt at h1;rw [List.getElem?_map] at h1;exact Option.map_eq_some_iff.1 h1
 obtain ⟨y,h2,rfl⟩ := h2;refine ⟨by unfold kdR;rw [h2],by unfold tkR;rw [h2],hlt,?_⟩;rw [<- List.drop_drop,h];rfl
theorem mt_nil {L : Toks} {i : Nat} (h : (mt L).drop i = []) : kdR L i = -1 /\ L.length <= i := by
 have hle : L.length <= i := by
  have := congrArg List.length h;unfold mt at this;simp at this;omega
 exact ⟨by unfold kdR;rw [List.getElem?_eq_none hle],hle⟩
theorem mt_skip {L : Toks} {i : Nat} {a b : List TokM} (h : (mt L).drop i = a ++ b) : (mt L).drop (i + a.length) = b := by
 rw [<- List.drop_drop,h];simp
def StopA (r : List TokM) : Prop := ∀ x,r.head? = some x -> x.kind = 4 \/ x.kind = 3
def StopP (r : List TokM) : Prop := ∀ x,r.head? = some x -> x.kind = 3
def NoCount (r : List TokM) : Prop := ∀ x,r.head? = some x -> x.kind ≠ 5
theorem StopP.a {r : List TokM} (h : StopP r) : StopA r := fun x hx => .inr (h x hx)
theorem StopA.n {r : List TokM} (h : StopA r) : NoCount r := fun x hx => by have := h x hx;omega
theorem kd_no {L : Toks} {i : Nat} {r : List TokM} (h : (mt L).drop i = r) (hn : NoCount r) : kdR L i ≠ 5 := by
 cases r with
 | nil => rw [(mt_nil h).1];decide
 | cons x r => rw [(mt_cons h).1];exact hn x rfl
structure PrsT (L : Toks) (size : Nat) (t : Tr) : Prop where
 single : IsSingle t -> ∀ n d i r,(mt L).drop i = tkT t ++ r -> 6 * (tkT t ++ r).length + 2 <= n -> d + dpT t <= 200 -> ∃ t',singleF L size n d i = (0,i + (tkT t).length,some t') /\ bare t' = bare t
 item : IsItem t -> ∀ n d i r,(mt L).drop i = tkT t ++ r -> 6 * (tkT t ++ r).length + 3 <= n -> d + dpT t <= 200 -> NoCount r -> ∃ t',itemF L size n d i = (0,i + (tkT t).length,some t') /\ bare t' = bare t
 alt : kdT t ≠ 5 -> ∀ n d i f r,(mt L).drop i = tkT t ++ r -> 6 * (tkT t ++ r).length + 4 <= n -> d + dpT t <= 200 -> StopA r -> ∃ t',itemsF L size n d i f [] = (0,i + (tkT t).length,some t') /\ bare t' = bare t
 pat : ∀ n d i r,(mt L).drop i = tkT t ++ r -> 6 * (tkT t ++ r).length + 6 <= n -> d + dpT t <= 200 -> StopP r -> ∃ t',patF L size n d i = (0,i + (tkT t).length,some t') /\ bare t' = bare t
theorem tk_first {t : Tr} (h : RtT t) (hi : IsItem t) : ∃ x r,tkT t = x :: r /\ (x.kind = 0 \/ x.kind = 1 \/ x.kind = 2) := by
 have single : ∀ {t : Tr},RtT t -> IsSingle t -> ∃ x r,tkT t = x :: r /\ (x.kind = 0 \/ x.kind = 1 \/ x.kind = 2) := by
  intro t h hi
  cases h with
  | empty a b => rcases hi with h | h | h <;> exact absurd h (by show ¬ (0 : Int) = _;decide)
  | set s a b hs => exact ⟨_,[],by rw [tkT_eq];rfl,.inl rfl⟩
  | group k a b u hk _ =>
   rcases hk with rfl | rfl
   ·exact ⟨kTok 1,_,by rw [tkT_eq];rfl,.inr (.inl rfl)⟩
   ·exact ⟨kTok 2,_,by rw [tkT_eq];rfl,.inr (.inr rfl)⟩
  | cat a b l _ _ _ => rcases hi with h | h | h <;> exact absurd h (by show ¬ (4 : Int) = _;decide)
  | alt a b l _ _ _ => rcases hi with h | h | h <;> exact absurd h (by show ¬ (5 : Int) = _;decide)
  | rep lo hi' z a b u _ _ _ => rcases hi with h | h | h <;> exact absurd h (by show ¬ (6 : Int) = _;decide)
 rcases hi with h1 | h1 | h1 | h1
 ·exact single h (.inl h1)
 ·exact single h (.inr (.inl h1))
 ·exact single h (.inr (.inr h1))
 ·cases h with
  | rep lo hi' z a b u _ hs hu =>
   obtain ⟨x,r,e,hx⟩ := single hu hs;exact ⟨x,r ++ [⟨5,noW,lo,hi',z⟩],by rw [tkT_eq];show tkT u ++ _ = _;rw [e];rfl,hx⟩
  | empty a b => exact absurd h1 (by show ¬ (0 : Int) = _;decide)
  | set s a b hs => exact absurd h1 (by show ¬ (1 : Int) = _;decide)
  | group k a b u hk _ => have : k = 6 := h1;omega
  | cat a b l _ _ _ => exact absurd h1 (by show ¬ (4 : Int) = _;decide)
  | alt a b l _ _ _ => exact absurd h1 (by show ¬ (5 : Int) = _;decide)
theorem items_loop {L : Toks} {size : Nat} : ∀ (l : List Tr),(∀ t ∈ l,IsItem t /\ RtT t /\ PrsT L size t) -> ∀ n d i f r acc,(mt L).drop i = joinA [] (l.map tkT) ++ r -> 6 * (joinA [] (l.map tkT) ++ r).length + 4 <= n -> (∀ t ∈ l,d + dpT t <= 200) -> StopA r ->
  ∃ l' a b,itemsF L size n d i f acc = (0,i + (joinA [] (l.map tkT)).length,some (catR (acc ++ l') a b)) /\ l'.map bare = l.map bare
 | [],_,n,d,i,f,r,acc,hd,hn,_,hs => by
  obtain ⟨n,rfl⟩ : ∃ m,n = m + 1 := ⟨n - 1,by omega⟩;refine ⟨[],plR L size f,plR L size i,?_,rfl⟩;rw [itemsF,if_pos ?_,List.append_nil]
  ·rfl
  ·have hd : (mt L).drop i = r := hd
   cases r with
   | nil => exact .inl (mt_nil hd).2
   | cons x r => rw [(mt_cons hd).1];exact .inr (hs x rfl)
 | t :: q,hl,n,d,i,f,r,acc,hd,hn,hdp,hs => by
  obtain ⟨n,rfl⟩ : ∃ m,n = m + 1 := ⟨n - 1,by omega⟩;obtain ⟨hi,hr,hp⟩ := hl t (List.mem_cons_self ..);obtain ⟨x,xs,e,hx⟩ := tk_first hr hi;have ej : joinA [] ((t :: q).map tkT) = tkT t ++ joinA [] (q.map tkT) := by rw [joinA_flat,joinA_flat];rfl
  rw [ej,List.append_assoc] at hd hn;rw [ej];have hc := hd;rw [e,List.cons_append] at hc;obtain ⟨c1,_,c3,_⟩ := mt_cons hc
  have hnc : NoCount (joinA [] (q.map tkT) ++ r) := by
   cases q with
   | nil => exact hs.n
   | cons u q =>
    obtain ⟨hi2,hr2,_⟩ := hl u (by simp);obtain ⟨y,ys,e2,hy⟩ := tk_first hr2 hi2;intro w hw;rw [List.map_cons,joinA,e2] at hw;have : y = w := by simpa using hw
    subst this;omega
  obtain ⟨t',h1,h2⟩ := hp.item hi n d i _ hd (by omega) (hdp t (List.mem_cons_self ..)) hnc;have hsk := mt_skip hd;have hlen : (tkT t ++ (joinA [] (q.map tkT) ++ r)).length = (tkT t).length + (joinA [] (q.map tkT) ++ r).length := List.length_append;have hpos : 1 <= (tkT t).length := by rw [e];simp
  obtain ⟨l',a,b,h3,h4⟩ := items_loop q (fun u hu => hl u (List.mem_cons_of_mem _ hu)) n d (i + (tkT t).length) f r (acc ++ [t']) hsk (by omega) (fun u hu => hdp u (List.mem_cons_of_mem _ hu)) hs;refine ⟨t' :: l',a,b,?_,by rw [List.map_cons,List.map_cons,h2,h4]⟩;rw [itemsF,if_neg (by rw [c1];omega),h1,thenR_ok,h3,List.length_append,Nat.add_assoc,List.append_assoc];rfl
theorem alts_loop {L : Toks} {size : Nat} : ∀ (l : List Tr),l ≠ [] -> (∀ t ∈ l,kdT t ≠ 5 /\ PrsT L size t) -> ∀ n d i f r acc,(mt L).drop i = joinA [kTok 4] (l.map tkT) ++ r -> 6 * (joinA [kTok 4] (l.map tkT) ++ r).length + 5 <= n -> (∀ t ∈ l,d + dpT t <= 200) -> StopP r ->
  ∃ l' a b,altsF L size n d i f acc = (0,i + (joinA [kTok 4] (l.map tkT)).length,some (joinR 5 (acc ++ l') a b)) /\ l'.map bare = l.map bare
 | [],h,_,_,_,_,_,_,_,_,_,_,_ => absurd rfl h
 | [t],_,hl,n,d,i,f,r,acc,hd,hn,hdp,hs => by
  obtain ⟨n,rfl⟩ : ∃ m,n = m + 1 := ⟨n - 1,by omega⟩;obtain ⟨hk,hp⟩ := hl t (List.mem_cons_self ..);have ej : joinA [kTok 4] ([t].map tkT) = tkT t := by simp [joinA]
  rw [ej] at hd hn ⊢;obtain ⟨t',h1,h2⟩ := hp.alt hk n d i i r hd (by omega) (hdp t (List.mem_cons_self ..)) hs.a;refine ⟨[t'],plR L size f,plR L size (i + (tkT t).length),?_,by rw [List.map_cons,List.map_cons,h2]⟩
  have h4 : kdR L (i + (tkT t).length) ≠ 4 := by
   have hsk := mt_skip hd
   cases r with
   | nil => rw [(mt_nil hsk).1];decide
   | cons x r => rw [(mt_cons hsk).1,hs x rfl];decide
  rw [altsF,h1,thenR_ok,if_neg h4]
 | t :: u :: q,_,hl,n,d,i,f,r,acc,hd,hn,hdp,hs => by
  obtain ⟨n,rfl⟩ : ∃ m,n = m + 1 := ⟨n - 1,by omega⟩;obtain ⟨hk,hp⟩ := hl t (List.mem_cons_self ..)
  have ej : joinA [kTok 4] ((t :: u :: q).map tkT) = tkT t ++ (kTok 4 :: joinA [kTok 4] ((u :: q).map tkT)) := by
   rw [List.map_cons,List.map_cons,joinA_two];rfl
  rw [ej,List.append_assoc,List.cons_append] at hd hn;rw [ej]
  have hst : StopA (kTok 4 :: (joinA [kTok 4] ((u :: q).map tkT) ++ r)) := by
   intro x hx;have : kTok 4 = x := by simpa using hx
   subst this;exact .inl rfl
  obtain ⟨t',h1,h2⟩ := hp.alt hk n d i i _ hd (by omega) (hdp t (List.mem_cons_self ..)) hst;have hsk := mt_skip hd;obtain ⟨c1,_,_,c4⟩ := mt_cons hsk;have hlen : (tkT t ++ (kTok 4 :: (joinA [kTok 4] ((u :: q).map tkT) ++ r))).length = (tkT t).length + ((joinA [kTok 4] ((u :: q).map tkT) ++ r).length + 1) := by rw [List.length_append,List.length_cons]
  obtain ⟨l',a,b,h3,h4⟩ := alts_loop (u :: q) (by simp) (fun v hv => hl v (List.mem_cons_of_mem _ hv)) n d (i + (tkT t).length + 1) f r (acc ++ [t']) c4 (by omega) (fun v hv => hdp v (List.mem_cons_of_mem _ hv)) hs;refine ⟨t' :: l',a,b,?_,by rw [List.map_cons,List.map_cons,h2,h4]⟩;rw [altsF,h1,thenR_ok,if_pos (by rw [c1];rfl),h3,List.length_append,List.length_cons,List.append_assoc];congr 2;omega
end
end
section
section
open Go Go.RowKit
theorem items_stop {L : Toks} {size n d i f : Nat} {acc : List Tr} {r : List TokM} (hd : (mt L).drop i = r) (hs : StopA r) : itemsF L size (n + 1) d i f acc = (0,i,some (catR acc (plR L size f) (plR L size i))) := by
 rw [itemsF,if_pos]
 cases r with
 | nil => exact .inl (mt_nil hd).2
 | cons x r => rw [(mt_cons hd).1];exact .inr (hs x rfl)
theorem prs_of {L : Toks} {size : Nat} {t : Tr} (hr : RtT t) (hi : IsItem t) (single : IsSingle t -> ∀ n d i r,(mt L).drop i = tkT t ++ r -> 6 * (tkT t ++ r).length + 2 <= n -> d + dpT t <= 200 -> ∃ t',singleF L size n d i = (0,i + (tkT t).length,some t') /\ bare t' = bare t)
  (item : ∀ n d i r,(mt L).drop i = tkT t ++ r -> 6 * (tkT t ++ r).length + 3 <= n -> d + dpT t <= 200 -> NoCount r -> ∃ t',itemF L size n d i = (0,i + (tkT t).length,some t') /\ bare t' = bare t) : PrsT L size t := by
 have alt : ∀ n d i f r,(mt L).drop i = tkT t ++ r -> 6 * (tkT t ++ r).length + 4 <= n -> d + dpT t <= 200 -> StopA r -> ∃ t',itemsF L size n d i f [] = (0,i + (tkT t).length,some t') /\ bare t' = bare t := by
  intro n d i f r hd hn hdp hs;obtain ⟨x,xs,e,hx⟩ := tk_first hr hi;obtain ⟨n,rfl⟩ : ∃ m,n = m + 2 := ⟨n - 2,by omega⟩;obtain ⟨t',h1,h2⟩ := item (n + 1) d i r hd (by omega) hdp hs.n;have hc := hd;rw [e,List.cons_append] at hc;obtain ⟨c1,_,c3,_⟩ := mt_cons hc;refine ⟨t',?_,h2⟩;rw [itemsF,if_neg (by rw [c1];omega),h1,thenR_ok,items_stop (mt_skip hd) hs];rfl
 refine ⟨single,fun _ => item,fun _ => alt,?_⟩;intro n d i r hd hn hdp hs;obtain ⟨n,rfl⟩ : ∃ m,n = m + 2 := ⟨n - 2,by omega⟩;obtain ⟨t',h1,h2⟩ := alt n d i i r hd (by omega) hdp hs.a;refine ⟨t',?_,h2⟩
 have h4 : kdR L (i + (tkT t).length) ≠ 4 := by
  have hsk := mt_skip hd
  cases r with
  | nil => rw [(mt_nil hsk).1];decide
  | cons x r => rw [(mt_cons hsk).1,hs x rfl];decide
 rw [patF,altsF,h1,thenR_ok,if_neg h4];rfl
theorem prs_alt {L : Toks} {size : Nat} {t : Tr} (hk : ¬ IsItem t) (alt : ∀ n d i f r,(mt L).drop i = tkT t ++ r -> 6 * (tkT t ++ r).length + 4 <= n -> d + dpT t <= 200 -> StopA r -> ∃ t',itemsF L size n d i f [] = (0,i + (tkT t).length,some t') /\ bare t' = bare t) : PrsT L size t := by
 refine ⟨fun h => absurd (by rcases h with h | h | h;exact .inl h;exact .inr (.inl h);exact .inr (.inr (.inl h))) hk,fun h => absurd h hk,fun _ => alt,?_⟩;intro n d i r hd hn hdp hs;obtain ⟨n,rfl⟩ : ∃ m,n = m + 2 := ⟨n - 2,by omega⟩;obtain ⟨t',h1,h2⟩ := alt n d i i r hd (by omega) hdp hs.a;refine ⟨t',?_,h2⟩
 have h4 : kdR L (i + (tkT t).length) ≠ 4 := by
  have hsk := mt_skip hd
  cases r with
  | nil => rw [(mt_nil hsk).1];decide
  | cons x r => rw [(mt_cons hsk).1,hs x rfl];decide
 rw [patF,altsF,h1,thenR_ok,if_neg h4];rfl
theorem catR_two {l : List Tr} (h : 2 <= l.length) (a b : Nat) : catR l a b = .mk 4 noW 0 0 false a b l := by
 match l,h with
 | [],h => simp at h
 | [_],h => simp at h
 | _ :: _ :: _,_ => rfl
theorem joinR_two {l : List Tr} (k : Int) (h : 2 <= l.length) (a b : Nat) : joinR k l a b = .mk k noW 0 0 false a b l := by
 match l,h with
 | [],h => simp at h
 | [_],h => simp at h
 | _ :: _ :: _,_ => rfl
theorem prs_all {L : Toks} {size : Nat} {t : Tr} (h : RtT t) : PrsT L size t := by
 induction h with
 | empty a b =>
  refine prs_alt (by rintro (h | h | h | h) <;> exact absurd h (by show ¬ (0 : Int) = _;decide)) ?_;intro n d i f r hd hn hdp hs;obtain ⟨n,rfl⟩ : ∃ m,n = m + 1 := ⟨n - 1,by omega⟩;refine ⟨_,items_stop (L := L) (size := size) (f := f) (acc := []) (r := r) (by rw [hd,tkT_eq];rfl) hs,?_⟩
  show bare (.mk 0 noW 0 0 false _ _ []) = _
  rw [bare_eq,bare_eq]
 | set s a b hs =>
  have e : tkT (.mk 1 s 0 0 false a b []) = [⟨0,s,0,0,false⟩] := by rw [tkT_eq];rfl
  have single : ∀ n d i r,(mt L).drop i = tkT (.mk 1 s 0 0 false a b []) ++ r -> 6 * (tkT (.mk 1 s 0 0 false a b []) ++ r).length + 2 <= n -> d + dpT (.mk 1 s 0 0 false a b []) <= 200 -> ∃ t',singleF L size n d i = (0,i + (tkT (.mk 1 s 0 0 false a b [])).length,some t') /\ bare t' = bare (.mk 1 s 0 0 false a b []) := by
   intro n d i r hd hn hdp;obtain ⟨n,rfl⟩ : ∃ m,n = m + 1 := ⟨n - 1,by omega⟩;rw [e] at hd ⊢;obtain ⟨c1,c2,_,_⟩ := mt_cons hd;refine ⟨_,by rw [singleF,if_pos c1,c2];rfl,?_⟩;rw [bare_eq,bare_eq]
  refine prs_of (.set s a b hs) (.inl rfl) (fun _ => single) ?_;intro n d i r hd hn hdp hs;obtain ⟨n,rfl⟩ : ∃ m,n = m + 1 := ⟨n - 1,by omega⟩;obtain ⟨t',h1,h2⟩ := single n d i r hd (by omega) hdp;exact ⟨t',by rw [itemF,h1,thenR_ok,if_neg (kd_no (mt_skip hd) hs)],h2⟩
 | group k a b u hk hu ih =>
  obtain ⟨t,ht⟩ : ∃ t,t = Tr.mk k noW 0 0 false a b [u] := ⟨_,rfl⟩;rw [<- ht]
  have e : ∃ x,x.kind = k - 1 /\ tkT t = x :: (tkT u ++ [kTok 3]) := by
   rw [ht,tkT_eq]
   rcases hk with rfl | rfl
   ·exact ⟨kTok 1,rfl,rfl⟩
   ·exact ⟨kTok 2,rfl,rfl⟩
  obtain ⟨x,hx,e⟩ := e
  have edp : dpT t = 1 + dpT u := by
   rw [ht,dpT,if_pos hk,dpTs,dpTs];omega
  have single : ∀ n d i r,(mt L).drop i = tkT t ++ r -> 6 * (tkT t ++ r).length + 2 <= n -> d + dpT t <= 200 -> ∃ t',singleF L size n d i = (0,i + (tkT t).length,some t') /\ bare t' = bare t := by
   intro n d i r hd hn hdp;obtain ⟨n,rfl⟩ : ∃ m,n = m + 2 := ⟨n - 2,by omega⟩;rw [e] at hd hn;have hd' : (mt L).drop i = x :: (tkT u ++ (kTok 3 :: r)) := by rw [hd];simp
   obtain ⟨c1,_,_,c4⟩ := mt_cons hd';have hlen : (x :: (tkT u ++ [kTok 3]) ++ r).length = (tkT u ++ (kTok 3 :: r)).length + 1 := by simp
   obtain ⟨t',h1,h2⟩ := ih.pat n (d + 1) (i + 1) (kTok 3 :: r) c4 (by omega) (by omega) (fun y hy => by
    have : kTok 3 = y := by simpa using hy
    rw [<- this];rfl)
   have hsk := mt_skip c4;obtain ⟨c5,_,_,_⟩ := mt_cons hsk
   have hg : groupF L size (n + 1) d i k = (0,i + (tkT t).length,some (.mk k noW 0 0 false (plR L size i) (plR L size (i + 1 + (tkT u).length + 1)) [t'])) := by
    rw [groupF,if_neg (by omega),h1,thenR_ok,if_pos (by rw [c5];rfl),e,List.length_cons,List.length_append];congr 2;simp;omega
   refine ⟨.mk k noW 0 0 false (plR L size i) (plR L size (i + 1 + (tkT u).length + 1)) [t'],?_,?_⟩
   ·rw [singleF]
    rcases hk with rfl | rfl
    ·rw [if_neg (by omega),if_pos (by omega)];exact hg
    ·rw [if_neg (by omega),if_neg (by omega),if_pos (by omega)];exact hg
   ·rw [ht,bare_eq,bare_eq,List.map_cons,List.map_cons,h2]
  refine prs_of (by rw [ht];exact .group k a b u hk hu) (by rw [ht];rcases hk with rfl | rfl;exact .inr (.inl rfl);exact .inr (.inr (.inl rfl))) (fun _ => single) ?_;intro n d i r hd hn hdp hs;obtain ⟨n,rfl⟩ : ∃ m,n = m + 1 := ⟨n - 1,by omega⟩;obtain ⟨t',h1,h2⟩ := single n d i r hd (by omega) hdp;exact ⟨t',by rw [itemF,h1,thenR_ok,if_neg (kd_no (mt_skip hd) hs)],h2⟩
 | cat a b l hl hi hr ih =>
  have e : tkT (.mk 4 noW 0 0 false a b l) = joinA [] (l.map tkT) := by rw [tkT_eq];rfl
  refine prs_alt (by rintro (h | h | h | h) <;> exact absurd h (by show ¬ (4 : Int) = _;decide)) ?_;intro n d i f r hd hn hdp hs;rw [e] at hd hn ⊢
  obtain ⟨l',a',b',h1,h2⟩ := items_loop (L := L) (size := size) l (fun t ht => ⟨hi t ht,hr t ht,ih t ht⟩) n d i f r [] hd hn (fun t ht => by
   have h1 := dpTs_mem ht;rw [dpT,if_neg (by decide)] at hdp
   omega) hs
  have hl2 : 2 <= l'.length := by have := congrArg List.length h2;simp at this;omega
  refine ⟨_,h1,?_⟩;rw [List.nil_append,catR_two hl2,bare_eq,bare_eq,h2]
 | alt a b l hl hi hr ih =>
  have e : tkT (.mk 5 noW 0 0 false a b l) = joinA [kTok 4] (l.map tkT) := by rw [tkT_eq];rfl
  refine ⟨fun h => absurd h (by rintro (h | h | h) <;> exact absurd h (by show ¬ (5 : Int) = _;decide)),fun h => absurd h (by rintro (h | h | h | h) <;> exact absurd h (by show ¬ (5 : Int) = _;decide)),fun h => absurd rfl h,?_⟩;intro n d i r hd hn hdp hs;obtain ⟨n,rfl⟩ : ∃ m,n = m + 1 := ⟨n - 1,by omega⟩;rw [e] at hd hn ⊢
  obtain ⟨l',a',b',h1,h2⟩ := alts_loop (L := L) (size := size) l (by intro h;subst h;simp at hl) (fun t ht => ⟨hi t ht,ih t ht⟩) n d i i r [] hd (by omega) (fun t ht => by
   have h1 := dpTs_mem ht;rw [dpT,if_neg (by decide)] at hdp
   omega) hs
  have hl2 : 2 <= l'.length := by have := congrArg List.length h2;simp at this;omega
  refine ⟨_,by rw [patF];exact h1,?_⟩;rw [List.nil_append,joinR_two 5 hl2,bare_eq,bare_eq,h2]
 | rep lo hi z a b u hc hsg hu ih =>
  have e : tkT (.mk 6 noW lo hi z a b [u]) = tkT u ++ [⟨5,noW,lo,hi,z⟩] := by rw [tkT_eq];rfl
  refine prs_of (.rep lo hi z a b u hc hsg hu) (.inr (.inr (.inr rfl))) (fun h => absurd h (by rintro (h | h | h) <;> exact absurd h (by show ¬ (6 : Int) = _;decide))) ?_;intro n d i r hd hn hdp _;obtain ⟨n,rfl⟩ : ∃ m,n = m + 1 := ⟨n - 1,by omega⟩;have edp : dpT (.mk 6 noW lo hi z a b [u]) = dpT u := by rw [dpT,if_neg (by decide),dpTs,dpTs];omega
  rw [edp] at hdp;rw [e,List.append_assoc] at hd hn;rw [e];obtain ⟨t',h1,h2⟩ := ih.single hsg n d i _ hd (by omega) hdp;obtain ⟨c1,c2,_,_⟩ := mt_cons (mt_skip hd);refine ⟨.mk 6 noW lo hi z (plR L size i) (plR L size (i + (tkT u).length + 1)) [t'],?_,?_⟩
  ·rw [itemF,h1,thenR_ok,if_pos (by rw [c1]),c2,List.length_append];rfl
  ·rw [bare_eq,bare_eq,List.map_cons,List.map_cons,h2]
end
end
section
section
open Go Go.RowKit
theorem count_S {s : ByteArray} {lo hi : Int} {k : Nat} (hc : countedR lo hi = true) (he : (countR s lo hi k).2.1 = 0) : TkS (countR s lo hi k).1 := by
 unfold countR at he ⊢
 split
 ·next h =>
  rw [if_pos h] at he
  split
  ·next h2 => rw [if_pos h2] at he;simp at he
  ·exact .count lo hi true hc
 ·next h =>
  rw [if_neg h] at he
  split
  ·next h2 => rw [if_pos h2] at he;simp at he
  ·exact .count lo hi false hc
theorem num_S {s : ByteArray} {a : Nat} (he : (numR s a).2.1 = 0) : 0 <= (numR s a).1 /\ (numR s a).1 <= 1000 := by
 unfold numR at he ⊢
 split
 ·next h => rw [if_pos h] at he;simp at he
 ·next h =>
  rw [if_neg h] at he
  split
  ·next h2 => rw [if_pos h2] at he;simp at he
  ·next h2 => dsimp only;omega
theorem shut_S {s : ByteArray} {lo hi : Int} {j : Nat} (hc : countedR lo hi = true) (he : (shutR s lo hi j).2.1 = 0) : TkS (shutR s lo hi j).1 := by
 unfold shutR at he ⊢
 split
 ·next h => rw [if_pos h] at he;exact count_S hc he
 ·next h => rw [if_neg h] at he;simp at he
theorem braces_S {s : ByteArray} {k : Nat} (he : (bracesR s k).2.1 = 0) : TkS (bracesR s k).1 := by
 unfold bracesR at he ⊢
 by_cases h1 : (numR s (k + 1)).2.1 ≠ 0
 ·rw [if_pos h1] at he;exact absurd he h1
 rw [if_neg h1] at he ⊢;have hn := num_S (s := s) (a := k + 1) (by omega);generalize numR s (k + 1) = r at *
 by_cases h2 : bAt s r.2.2 = 44
 ·rw [if_pos h2] at he ⊢
  by_cases h3 : (mostR s r.1 (r.2.2 + 1)).2.1 ≠ 0
  ·rw [if_pos h3] at he;exact absurd he h3
  rw [if_neg h3] at he ⊢;refine shut_S ?_ he;rw [counted_iff];unfold mostR at h3 ⊢
  by_cases h4 : bAt s (r.2.2 + 1) = 125
  ·rw [if_pos h4];unfold countM;rw [if_pos rfl];omega
  ·rw [if_neg h4] at h3 ⊢
   by_cases h5 : (numR s (r.2.2 + 1)).2.1 = 0 /\ (numR s (r.2.2 + 1)).1 < r.1
   ·rw [if_pos h5] at h3;simp at h3
   ·rw [if_neg h5] at h3 ⊢;have hm := num_S (s := s) (a := r.2.2 + 1) (by omega);unfold countM;rw [if_neg (by omega)];omega
 ·rw [if_neg h2] at he ⊢;refine shut_S ?_ he;rw [counted_iff];unfold countM;rw [if_neg (by omega)];omega
theorem token_S {s : ByteArray} {k : Nat} (hk : k < s.size) (he : (tokenR s k).2.1 = 0) : TkS (tokenR s k).1 := by
 unfold tokenR at he ⊢
 split
 ·exact .bar
 ·next h1 =>
  rw [if_neg h1] at he
  split
  ·next h2 =>
   rw [if_pos h2] at he;unfold openR at he ⊢
   split
   ·next h3 =>
    rw [if_pos h3] at he
    split
    ·exact .free
    ·next h4 => rw [if_neg h4] at he;simp at he
   ·exact .cap
  ·next h2 =>
   rw [if_neg h2] at he
   split
   ·exact .shut
   ·next h3 =>
    rw [if_neg h3] at he
    split
    ·next h4 =>
     rw [if_pos h4] at he;unfold signR at he ⊢
     split
     ·next h5 => rw [if_pos h5] at he;exact count_S (by decide) he
     ·next h5 =>
      rw [if_neg h5] at he
      split
      ·next h6 => rw [if_pos h6] at he;exact count_S (by decide) he
      ·next h6 => rw [if_neg h6] at he;exact count_S (by decide) he
    ·next h4 =>
     rw [if_neg h4] at he
     split
     ·next h5 => rw [if_pos h5] at he;exact braces_S he
     ·exact .set _ (setR_set hk).fit
theorem scanR_S {s : ByteArray} : ∀ (n k : Nat),∀ x ∈ (scanR s n k).1,TkS x.1
 | 0,k,x,h => by simp [scanR] at h
 | n + 1,k,x,h => by
  rw [scanR] at h
  by_cases h1 : s.size <= k
  ·rw [if_pos h1] at h;simp at h
  rw [if_neg h1] at h
  by_cases h2 : (tokenR s k).2.1 ≠ 0
  ·rw [if_pos h2] at h;simp at h
  rw [if_neg h2] at h
  by_cases h3 : (scanR s n (tokenR s k).2.2).2.1 ≠ 0
  ·rw [if_pos h3] at h;simp at h
  rw [if_neg h3] at h
  rcases List.mem_cons.1 h with rfl | h
  ·exact token_S (by omega) (by omega)
  ·exact scanR_S n _ x h
theorem thenR_inv {r : Res} {f : Nat -> Tr -> Res} {j : Nat} {t : Tr} (h : thenR r f = (0,j,some t)) : ∃ j' t',r = (0,j',some t') /\ f j' t' = (0,j,some t) := by
 obtain ⟨e,j',o⟩ := r;unfold thenR at h
 cases o with
 | none => simp at h
 | some t' =>
  dsimp only at h
  by_cases he : e = 0
  ·rw [if_pos he] at h;exact ⟨j',t',by rw [he],h⟩
  ·rw [if_neg he] at h;simp at h
theorem kd_take {L : Toks} (hL : ∀ x ∈ mt L,TkS x) {i : Nat} {k : Int} (h : kdR L i = k) (hk : k ≠ -1) : (mt L).drop i = tkR L i :: (mt L).drop (i + 1) /\ (tkR L i).kind = k /\ TkS (tkR L i) := by
 cases hd : (mt L).drop i with
 | nil => exact absurd ((mt_nil hd).1.symm.trans h).symm hk
 | cons x r =>
  obtain ⟨h1,h2,_,h4⟩ := mt_cons hd;rw [h2,h4];refine ⟨rfl,h1.symm.trans h,hL x ?_⟩;exact List.mem_of_mem_drop (i := i) (by rw [hd];exact List.mem_cons_self ..)
theorem tk_of_kind {x : TokM} (h : TkS x) {k : Int} (hk : x.kind = k) (h1 : k = 1 \/ k = 2 \/ k = 3 \/ k = 4) : x = kTok k := by
 subst hk
 cases h with
 | set s hs => exact absurd h1 (by show ¬ ((0 : Int) = 1 \/ (0 : Int) = 2 \/ (0 : Int) = 3 \/ (0 : Int) = 4);decide)
 | cap => rfl
 | free => rfl
 | shut => rfl
 | bar => rfl
 | count lo hi z hc => exact absurd h1 (by show ¬ ((5 : Int) = 1 \/ (5 : Int) = 2 \/ (5 : Int) = 3 \/ (5 : Int) = 4);decide)
theorem cat_right {d : Nat} (hd : d <= 200) {l : List Tr} (h : ∀ u ∈ l,RtT u /\ IsItem u /\ d + dpT u <= 200) (a b : Nat) : RtT (catR l a b) /\ kdT (catR l a b) ≠ 5 /\ d + dpT (catR l a b) <= 200 /\ tkT (catR l a b) = joinA [] (l.map tkT) := by
 match l,h with
 | [],_ => exact ⟨.empty a b,by show (0 : Int) ≠ 5;decide,hd,by show tkT (.mk 0 noW 0 0 false a b []) = _;rw [tkT_eq];rfl⟩
 | [u],h =>
  obtain ⟨h1,h2,h3⟩ := h u (List.mem_cons_self ..);refine ⟨h1,?_,h3,by simp [joinA];rfl⟩
  show kdT u ≠ 5
  unfold IsItem at h2;omega
 | u :: v :: q,h =>
  refine ⟨.cat a b _ (by simp) (fun t ht => (h t ht).2.1) (fun t ht => (h t ht).1),by show (4 : Int) ≠ 5;decide,?_,by show tkT (.mk 4 noW 0 0 false a b _) = _;rw [tkT_eq];rfl⟩
  show d + dpT (.mk 4 noW 0 0 false a b (u :: v :: q)) <= 200
  rw [dpT,if_neg (by decide)];have := dpTs_le (l := u :: v :: q) (c := 200 - d) (fun t ht => by have := (h t ht).2.2;omega);omega
theorem alt_right {d : Nat} {l : List Tr} (hl : l ≠ []) (h : ∀ u ∈ l,RtT u /\ kdT u ≠ 5 /\ d + dpT u <= 200) (a b : Nat) : RtT (joinR 5 l a b) /\ d + dpT (joinR 5 l a b) <= 200 /\ tkT (joinR 5 l a b) = joinA [kTok 4] (l.map tkT) := by
 match l,hl,h with
 | [u],_,h =>
  obtain ⟨h1,_,h3⟩ := h u (List.mem_cons_self ..);exact ⟨h1,h3,by simp [joinA];rfl⟩
 | u :: v :: q,_,h =>
  have hd : d <= 200 := by have := (h u (List.mem_cons_self ..)).2.2;omega
  refine ⟨.alt a b _ (by simp) (fun t ht => (h t ht).2.1) (fun t ht => (h t ht).1),?_,by show tkT (.mk 5 noW 0 0 false a b _) = _;rw [tkT_eq];rfl⟩
  show d + dpT (.mk 5 noW 0 0 false a b (u :: v :: q)) <= 200
  rw [dpT,if_neg (by decide)];have := dpTs_le (l := u :: v :: q) (c := 200 - d) (fun t ht => by have := (h t ht).2.2;omega);omega
structure Made1 (L : Toks) (d i j : Nat) (t : Tr) : Prop where
 right : RtT t
 deep : d + dpT t <= 200
 toks : (mt L).drop i = tkT t ++ (mt L).drop j
theorem back_all {L : Toks} (hL : ∀ x ∈ mt L,TkS x) (size : Nat) : ∀ n,
  (∀ d i j t,d <= 200 -> patF L size n d i = (0,j,some t) -> Made1 L d i j t) /\
  (∀ d i f acc j t,d <= 200 -> altsF L size n d i f acc = (0,j,some t) -> ∃ l a b,l ≠ [] /\ t = joinR 5 (acc ++ l) a b /\ (∀ u ∈ l,RtT u /\ kdT u ≠ 5 /\ d + dpT u <= 200) /\ (mt L).drop i = joinA [kTok 4] (l.map tkT) ++ (mt L).drop j) /\
  (∀ d i f acc j t,d <= 200 -> itemsF L size n d i f acc = (0,j,some t) -> ∃ l a b,t = catR (acc ++ l) a b /\ (∀ u ∈ l,RtT u /\ IsItem u /\ d + dpT u <= 200) /\ (mt L).drop i = joinA [] (l.map tkT) ++ (mt L).drop j) /\
  (∀ d i j t,d <= 200 -> itemF L size n d i = (0,j,some t) -> IsItem t /\ Made1 L d i j t) /\
  (∀ d i j t,d <= 200 -> singleF L size n d i = (0,j,some t) -> IsSingle t /\ Made1 L d i j t) /\
  (∀ d i k j t,d <= 200 -> (k = 2 \/ k = 3) -> kdR L i = k - 1 -> groupF L size n d i k = (0,j,some t) -> IsSingle t /\ Made1 L d i j t) := by
 intro n
 induction n with
 | zero =>
  refine ⟨fun d i j t _ h => ?_,fun d i f acc j t _ h => ?_,fun d i f acc j t _ h => ?_,fun d i j t _ h => ?_,fun d i j t _ h => ?_,fun d i k j t _ _ _ h => ?_⟩
  ·rw [patF] at h;simp at h
  ·rw [altsF] at h;simp at h
  ·rw [itemsF] at h;simp at h
  ·rw [itemF] at h;simp at h
  ·rw [singleF] at h;simp at h
  ·rw [groupF] at h;simp at h
 | succ n ih =>
  obtain ⟨i1,i2,i3,i4,i5,i6⟩ := ih;refine ⟨?_,?_,?_,?_,?_,?_⟩
  ·intro d i j t hd h;rw [patF] at h;obtain ⟨l,a,b,h1,rfl,h3,h4⟩ := i2 d i i [] j t hd h;obtain ⟨r1,r2,r3⟩ := alt_right h1 h3 a b;rw [List.nil_append];exact ⟨r1,r2,by rw [r3];exact h4⟩
  ·intro d i f acc j t hd h;rw [altsF] at h;obtain ⟨j',t',h1,h2⟩ := thenR_inv h;obtain ⟨l,a,b,rfl,h4,h5⟩ := i3 d i i [] j' t' hd h1;rw [List.nil_append] at h2;obtain ⟨r1,r2,r3,r4⟩ := cat_right hd h4 a b;rw [<- r4] at h5;generalize catR l a b = c at *
   by_cases hk : kdR L j' = 4
   ·rw [if_pos hk] at h2;obtain ⟨l2,a2,b2,g1,rfl,g3,g4⟩ := i2 d (j' + 1) f (acc ++ [c]) j t hd h2;obtain ⟨k1,k2,k3⟩ := kd_take hL hk (by decide);rw [tk_of_kind k3 k2 (by decide)] at k1;refine ⟨c :: l2,a2,b2,by simp,by simp,fun u hu => ?_,?_⟩
    ·rcases List.mem_cons.1 hu with rfl | hu
     ·exact ⟨r1,r2,r3⟩
     ·exact g3 u hu
    ·cases l2 with
     | nil => exact absurd rfl g1
     | cons v q =>
      rw [List.map_cons,List.map_cons,joinA_two,h5,k1,g4];simp
   ·rw [if_neg hk] at h2;simp only [Prod.mk.injEq,Option.some.injEq,true_and] at h2;obtain ⟨rfl,rfl⟩ := h2;refine ⟨[c],_,_,by simp,rfl,fun u hu => ?_,?_⟩
    ·obtain rfl : u = c := by simpa using hu
     exact ⟨r1,r2,r3⟩
    ·rw [h5];simp [joinA]
  ·intro d i f acc j t hd h;rw [itemsF] at h
   by_cases hs : L.length <= i \/ kdR L i = 4 \/ kdR L i = 3
   ·rw [if_pos hs] at h;simp only [Prod.mk.injEq,Option.some.injEq,true_and] at h;obtain ⟨rfl,rfl⟩ := h;exact ⟨[],_,_,by rw [List.append_nil],fun u hu => by simp at hu,rfl⟩
   ·rw [if_neg hs] at h;obtain ⟨j',t',h1,h2⟩ := thenR_inv h;obtain ⟨r1,r2⟩ := i4 d i j' t' hd h1;obtain ⟨l,a,b,rfl,g3,g4⟩ := i3 d j' f (acc ++ [t']) j t hd h2;refine ⟨t' :: l,a,b,by simp,fun u hu => ?_,?_⟩
    ·rcases List.mem_cons.1 hu with rfl | hu
     ·exact ⟨r2.right,r1,r2.deep⟩
     ·exact g3 u hu
    ·rw [r2.toks,g4,joinA_flat,joinA_flat];simp
  ·intro d i j t hd h;rw [itemF] at h;obtain ⟨j',t',h1,h2⟩ := thenR_inv h;obtain ⟨r1,r2⟩ := i5 d i j' t' hd h1
   by_cases hk : kdR L j' = 5
   ·rw [if_pos hk] at h2;simp only [Prod.mk.injEq,Option.some.injEq,true_and] at h2;obtain ⟨rfl,rfl⟩ := h2;obtain ⟨k1,k2,k3⟩ := kd_take hL hk (by decide)
    obtain ⟨lo,hi,z,hx,hc⟩ : ∃ lo hi z,tkR L j' = ⟨5,noW,lo,hi,z⟩ /\ countedR lo hi = true := by
     generalize tkR L j' = x at *
     cases k3 with
     | set s hs => exact absurd k2 (by show ¬ (0 : Int) = 5;decide)
     | cap => exact absurd k2 (by show ¬ (1 : Int) = 5;decide)
     | free => exact absurd k2 (by show ¬ (2 : Int) = 5;decide)
     | shut => exact absurd k2 (by show ¬ (3 : Int) = 5;decide)
     | bar => exact absurd k2 (by show ¬ (4 : Int) = 5;decide)
     | count lo hi z hc => exact ⟨lo,hi,z,rfl,hc⟩
    rw [hx] at k1 ⊢;refine ⟨.inr (.inr (.inr rfl)),.rep lo hi z _ _ t' hc r1 r2.right,?_,?_⟩
    ·show d + dpT (.mk 6 noW lo hi z _ _ [t']) <= 200
     rw [dpT,if_neg (by decide),dpTs,dpTs];have := r2.deep;omega
    ·have e : ∀ a b,tkT (.mk 6 noW lo hi z a b [t']) = tkT t' ++ [⟨5,noW,lo,hi,z⟩] := fun a b => by rw [tkT_eq];rfl
     rw [e,r2.toks,k1];simp
   ·rw [if_neg hk] at h2;simp only [Prod.mk.injEq,Option.some.injEq,true_and] at h2;obtain ⟨rfl,rfl⟩ := h2;refine ⟨?_,r2⟩
    rcases r1 with h | h | h
    ·exact .inl h
    ·exact .inr (.inl h)
    ·exact .inr (.inr (.inl h))
  ·intro d i j t hd h;rw [singleF] at h
   by_cases h0 : kdR L i = 0
   ·rw [if_pos h0] at h;simp only [Prod.mk.injEq,Option.some.injEq,true_and] at h;obtain ⟨rfl,rfl⟩ := h;obtain ⟨k1,k2,k3⟩ := kd_take hL h0 (by decide)
    obtain ⟨s,hx,hf⟩ : ∃ s,tkR L i = ⟨0,s,0,0,false⟩ /\ s.fit := by
     generalize tkR L i = x at *
     cases k3 with
     | set s hs => exact ⟨s,rfl,hs⟩
     | cap => exact absurd k2 (by show ¬ (1 : Int) = 0;decide)
     | free => exact absurd k2 (by show ¬ (2 : Int) = 0;decide)
     | shut => exact absurd k2 (by show ¬ (3 : Int) = 0;decide)
     | bar => exact absurd k2 (by show ¬ (4 : Int) = 0;decide)
     | count lo hi z hc => exact absurd k2 (by show ¬ (5 : Int) = 0;decide)
    rw [hx] at k1 ⊢;refine ⟨.inl rfl,.set s _ _ hf,hd,?_⟩;rw [tkT_eq,k1];rfl
   ·rw [if_neg h0] at h
    by_cases h1 : kdR L i = 1
    ·rw [if_pos h1] at h;exact i6 d i 2 j t hd (.inl rfl) (by omega) h
    ·rw [if_neg h1] at h
     by_cases h2 : kdR L i = 2
     ·rw [if_pos h2] at h;exact i6 d i 3 j t hd (.inr rfl) (by omega) h
     ·rw [if_neg h2] at h;simp at h
  ·intro d i k j t hd hk hkd h;rw [groupF] at h
   by_cases h200 : d = 200
   ·rw [if_pos h200] at h;simp at h
   rw [if_neg h200] at h;obtain ⟨j',t',h1,h2⟩ := thenR_inv h;have r := i1 (d + 1) (i + 1) j' t' (by omega) h1
   by_cases h3 : kdR L j' = 3
   ·rw [if_pos h3] at h2;simp only [Prod.mk.injEq,Option.some.injEq,true_and] at h2;obtain ⟨rfl,rfl⟩ := h2;obtain ⟨k1,k2,k3⟩ := kd_take hL hkd (by omega);obtain ⟨q1,q2,q3⟩ := kd_take hL h3 (by decide);rw [tk_of_kind k3 k2 (by omega)] at k1;rw [tk_of_kind q3 q2 (by decide)] at q1;refine ⟨?_,.group k _ _ t' hk r.right,?_,?_⟩
    ·rcases hk with rfl | rfl
     ·exact .inr (.inl rfl)
     ·exact .inr (.inr rfl)
    ·show d + dpT (.mk k noW 0 0 false _ _ [t']) <= 200
     rw [dpT,if_pos hk,dpTs,dpTs];have := r.deep;omega
    ·rw [tkT_eq,k1,r.toks,q1]
     rcases hk with rfl | rfl <;> simp [tkN]
   ·rw [if_neg h3] at h2;simp at h2
theorem parse_right {s : ByteArray} {t : Tr} (h : parseR s = (0,0,some t)) : RtT t /\ dpT t <= 200 /\ tkT t = mt (scanAll s).1 := by
 unfold parseR at h
 by_cases h1 : (scanAll s).2.1 ≠ 0
 ·rw [if_pos h1] at h;simp at h
 rw [if_neg h1] at h
 by_cases h2 : (wholeR (scanAll s).1 s.size).1 ≠ 0
 ·rw [if_pos h2] at h;simp at h
 rw [if_neg h2] at h;simp only [Prod.mk.injEq,true_and] at h;obtain ⟨⟨e,j,o⟩,hw⟩ : ∃ r,wholeR (scanAll s).1 s.size = r := ⟨_,rfl⟩;rw [hw] at h h2;have he : e = 0 := by simpa using h2
 subst he;have ho : o = some t := h;subst ho
 have hS : ∀ x ∈ mt (scanAll s).1,TkS x := by
  intro x hx;obtain ⟨y,hy,rfl⟩ := List.mem_map.1 hx;exact scanR_S _ _ y hy
 generalize (scanAll s).1 = L at *;unfold wholeR at hw;obtain ⟨j',t',g1,g2⟩ := thenR_inv hw;have m := (back_all hS s.size _).1 0 0 j' t' (by omega) g1
 by_cases hj : j' < L.length
 ·rw [if_pos hj] at g2;simp at g2
 rw [if_neg hj] at g2;simp only [Prod.mk.injEq,Option.some.injEq,true_and] at g2;obtain ⟨rfl,rfl⟩ := g2;have hd := m.deep;refine ⟨m.right,by omega,?_⟩;have ht := m.toks;have hnil : (mt L).drop j' = [] := List.drop_eq_nil_of_le (by unfold mt;simp;omega);rw [hnil,List.append_nil] at ht;simpa using ht.symm
theorem maxR_dp (l : List Tr) : maxR (l.map fun t => (dpT t : Int)) = (dpTs l : Int) := by
 have key : ∀ (l : List Tr) (a : Nat),(l.map fun t => (dpT t : Int)).foldl max (a : Int) = ((max a (dpTs l) : Nat) : Int) := by
  intro l
  induction l with
  | nil => intro a;simp [dpTs]
  | cons u r ih =>
   intro a;have e : max (a : Int) (dpT u : Int) = ((max a (dpT u) : Nat) : Int) := by omega
   rw [List.map_cons,List.foldl_cons,e,ih,dpTs];congr 1;omega
 have := key l 0;unfold maxR;rw [show (0 : Int) = ((0 : Nat) : Int) from rfl,this,Nat.zero_max]
theorem without_of {l : List Tr} {ks : List Int} (h : ∀ t ∈ l,¬ kdT t ∈ ks) : withoutR l ks = true := by
 unfold withoutR;rw [List.all_eq_true];intro t ht;simpa using h t ht
theorem rt_sound {t : Tr} (h : RtT t) : soundR t = true := by
 cases h with
 | empty a b => rfl
 | set s a b hs =>
  show (!soundS 1 s && (!soundN 1 0 0 false && soundK 1 0 0 [])) = true
  simp [soundS,soundN,soundK]
 | group k a b u hk _ =>
  show (!soundS k noW && (!soundN k 0 0 false && soundK k 0 0 [u])) = true
  have hw := without_of (l := [u]) (ks := []) (fun t _ => by simp)
  rcases hk with rfl | rfl <;> simp [soundS,soundN,soundK,hw,noSet,noW]
 | cat a b l hl hi hr =>
  show (!soundS 4 noW && (!soundN 4 0 0 false && soundK 4 0 0 l)) = true
  have hw := without_of (l := l) (ks := [0,4,5]) (fun t ht => by have := hi t ht;unfold IsItem at this;simp;omega);have h1 : 1 < l.length := by omega
  simp [soundS,soundN,soundK,hw,noSet,noW,h1]
 | alt a b l hl hi hr =>
  show (!soundS 5 noW && (!soundN 5 0 0 false && soundK 5 0 0 l)) = true
  have hw := without_of (l := l) (ks := [5]) (fun t ht => by have := hi t ht;simpa using this);have h1 : 1 < l.length := by omega
  simp [soundS,soundN,soundK,hw,noSet,noW,h1]
 | rep lo hi z a b u hc hs _ =>
  show (!soundS 6 noW && (!soundN 6 lo hi z && soundK 6 lo hi [u])) = true
  have hw := without_of (l := [u]) (ks := [0,4,5,6]) (fun t ht => by
   have e : t = u := by simpa using ht
   subst e;unfold IsSingle at hs
   simp;omega)
  simp [soundS,soundN,soundK,hw,noSet,noW,hc]
theorem rt_right {t : Tr} (h : RtT t) : foldR rightN t = (dpT t : Int) := by
 have step : ∀ (k : Int) (s : W4) (lo hi : Int) (z : Bool) (a b : Nat) (l : List Tr),RtT (.mk k s lo hi z a b l) -> (∀ u ∈ l,foldR rightN u = (dpT u : Int)) -> foldR rightN (.mk k s lo hi z a b l) = (dpT (.mk k s lo hi z a b l) : Int) := by
  intro k s lo hi z a b l h ih;rw [foldR_eq];have e : (prts (.mk k s lo hi z a b l)).map (foldR rightN) = l.map fun t => (dpT t : Int) := List.map_congr_left ih
  rw [e];unfold rightN;rw [if_pos (rt_sound h)]
  show (if k = 2 \/ k = 3 then maxR _ + 1 else maxR _) = _
  rw [maxR_dp,dpT]
  split <;> omega
 induction h with
 | empty a b => exact step _ _ _ _ _ _ _ _ (.empty a b) (fun u hu => by simp at hu)
 | set s a b hs => exact step _ _ _ _ _ _ _ _ (.set s a b hs) (fun u hu => by simp at hu)
 | group k a b u hk hu ih => exact step _ _ _ _ _ _ _ _ (.group k a b u hk hu) (fun v hv => by rw [List.mem_singleton.1 hv];exact ih)
 | cat a b l h1 h2 h3 ih => exact step _ _ _ _ _ _ _ _ (.cat a b l h1 h2 h3) ih
 | alt a b l h1 h2 h3 ih => exact step _ _ _ _ _ _ _ _ (.alt a b l h1 h2 h3) ih
 | rep lo hi z a b u hc hs hu ih => exact step _ _ _ _ _ _ _ _ (.rep lo hi z a b u hc hs hu) (fun v hv => by rw [List.mem_singleton.1 hv];exact ih)
theorem sums_item : ∀ l : List Tr,(∀ t ∈ l,trSize t + 3 <= 4 * (tkT t).length) -> trSizes l + 3 * l.length <= 4 * (joinA [] (l.map tkT)).length
 | [],_ => by simp [trSizes]
 | t :: r,h => by
  have h1 := h t (List.mem_cons_self ..);have h2 := sums_item r (fun u hu => h u (List.mem_cons_of_mem _ hu))
  have e : (joinA [] ((t :: r).map tkT)).length = (tkT t).length + (joinA [] (r.map tkT)).length := by
   rw [joinA_flat,joinA_flat];simp
  rw [e,trSizes,List.length_cons];omega
theorem sums_alt : ∀ l : List Tr,l ≠ [] -> (∀ t ∈ l,trSize t <= 4 * (tkT t).length + 1) -> trSizes l + 3 * l.length <= 4 * (joinA [kTok 4] (l.map tkT)).length + 4
 | [],h,_ => absurd rfl h
 | [t],_,h => by
  have h1 := h t (List.mem_cons_self ..);have e : (joinA [kTok 4] ([t].map tkT)).length = (tkT t).length := by simp [joinA]
  rw [e,trSizes,trSizes,List.length_cons,List.length_nil];omega
 | t :: u :: q,_,h => by
  have h1 := h t (List.mem_cons_self ..);have h2 := sums_alt (u :: q) (by simp) (fun v hv => h v (List.mem_cons_of_mem _ hv))
  have e : (joinA [kTok 4] ((t :: u :: q).map tkT)).length = (tkT t).length + (1 + (joinA [kTok 4] ((u :: q).map tkT)).length) := by
   rw [List.map_cons,List.map_cons,joinA_two,List.length_append,List.length_append];rfl
  rw [e,trSizes,List.length_cons];omega
theorem rt_sizes {t : Tr} (h : RtT t) : (IsItem t -> trSize t + 3 <= 4 * (tkT t).length) /\ (kdT t ≠ 5 -> trSize t <= 4 * (tkT t).length + 1) /\ trSize t <= 4 * (tkT t).length + 2 := by
 have sz : ∀ (k : Int) (s : W4) (lo hi : Int) (z : Bool) (a b : Nat) (l : List Tr),trSize (.mk k s lo hi z a b l) = 1 + trSizes l := fun k s lo hi z a b l => trSize_eq (.mk k s lo hi z a b l)
 have up : ∀ {t : Tr},trSize t + 3 <= 4 * (tkT t).length -> (IsItem t -> trSize t + 3 <= 4 * (tkT t).length) /\ (kdT t ≠ 5 -> trSize t <= 4 * (tkT t).length + 1) /\ trSize t <= 4 * (tkT t).length + 2 := fun h => ⟨fun _ => h,fun _ => by omega,by omega⟩
 induction h with
 | empty a b =>
  have : trSize (.mk 0 noW 0 0 false a b []) = 1 := by rw [sz,trSizes]
  refine ⟨fun h => absurd h (by rintro (h | h | h | h) <;> exact absurd h (by show ¬ (0 : Int) = _;decide)),fun _ => by omega,by omega⟩
 | set s a b hs =>
  refine up ?_;rw [sz,trSizes,tkT_eq]
  show 1 + 0 + 3 <= 4 * 1
  omega
 | group k a b u hk hu ih =>
  refine up ?_
  have e : (tkT (.mk k noW 0 0 false a b [u])).length = (tkT u).length + 2 := by
   rw [tkT_eq]
   rcases hk with rfl | rfl <;> simp [tkN]
  rw [e,sz,trSizes,trSizes];have := ih.2.2;omega
 | cat a b l hl hi _ ih =>
  have e : (tkT (.mk 4 noW 0 0 false a b l)).length = (joinA [] (l.map tkT)).length := by rw [tkT_eq];rfl
  have := sums_item l (fun t ht => (ih t ht).1 (hi t ht));rw [e,sz];refine ⟨fun h => absurd h (by rintro (h | h | h | h) <;> exact absurd h (by show ¬ (4 : Int) = _;decide)),fun _ => by omega,by omega⟩
 | alt a b l hl hi _ ih =>
  have e : (tkT (.mk 5 noW 0 0 false a b l)).length = (joinA [kTok 4] (l.map tkT)).length := by rw [tkT_eq];rfl
  have := sums_alt l (by intro h;subst h;simp at hl) (fun t ht => (ih t ht).2.1 (hi t ht));rw [e,sz];refine ⟨fun h => absurd h (by rintro (h | h | h | h) <;> exact absurd h (by show ¬ (5 : Int) = _;decide)),fun h => absurd rfl h,by omega⟩
 | rep lo hi z a b u hc hs hu ih =>
  refine up ?_;have e : (tkT (.mk 6 noW lo hi z a b [u])).length = (tkT u).length + 1 := by rw [tkT_eq];simp [tkN]
  have h1 : IsItem u := by rcases hs with h | h | h;exact .inl h;exact .inr (.inl h);exact .inr (.inr (.inl h))
  rw [e,sz,trSizes,trSizes];have := ih.1 h1;omega
end
end
section
section
open Go Go.RowKit
attribute [local go_sem ↓] Go.wp_at_zero Go.wp_at_succ
theorem whole_some {L : Toks} {size : Nat} (h : (wholeR L size).1 = 0) : ∃ t,(wholeR L size).2.2 = some t := by
 unfold wholeR at h ⊢
 rcases ((fit_all L size (6 * L.length + 6)).1 0 0 (Nat.zero_le _)).cases with ⟨j,t,hr,_,_⟩ | ⟨e,j,hr,he,_⟩
 ·rw [hr,thenR_ok] at h ⊢
  by_cases hj : j < L.length
  ·rw [if_pos hj] at h;exact absurd h (by simp)
  ·rw [if_neg hj];exact ⟨t,rfl⟩
 ·rw [hr,thenR_bad] at h;have : e = 0 := h;omega
theorem parseR_cases (s : ByteArray) : (∃ t,parseR s = (0,0,some t)) \/ ∃ e at_,parseR s = (e,at_,none) /\ e ≠ 0 := by
 unfold parseR
 by_cases h1 : (scanAll s).2.1 ≠ 0
 ·rw [if_pos h1];exact .inr ⟨_,_,rfl,h1⟩
 rw [if_neg h1]
 by_cases h2 : (wholeR (scanAll s).1 s.size).1 ≠ 0
 ·rw [if_pos h2];exact .inr ⟨_,_,rfl,h2⟩
 rw [if_neg h2];obtain ⟨t,ht⟩ := whole_some (by omega : (wholeR (scanAll s).1 s.size).1 = 0);exact .inl ⟨t,by rw [ht]⟩
end
end
end
section
open Go.ChangeShapes Go.WideShapes Go.ChangeAt Go.WideMaps Go.WideElems Go.RowKit
end
end
end Go.Proofs.YtihoefibfhccfaaGreatDoor
