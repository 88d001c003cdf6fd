/- A part of the proof. -/
import Derived.Test.YtnmalggmbeipaaaGreatDoorTb
import Derived.Test.YtnmalggmbeipaaaGreatDoorRegion
import Derived.LoopTactic
import Derived.Test.YtnmalggmbeipaaaGreatDoorRa
import Derived.Deep.QuietTactic
import Derived.BigQuiet
import Derived.Test.YtnmalggmbeipaaaGreatDoorTa
import Derived.Lib.Strings
import Derived.Lib.Slices
import Derived.Lib.Builder
import Derived.Lib.AppendStr
import Derived.Lib.UnsafeStr
import Derived.Laws.Externs
import Derived.Laws.IdiomCopy
import Derived.Laws.BitsLemmas
import Derived.Shelf.Strconv.Itoa3
import Derived.Lib.ItoaNum
import Derived.Lib.ItoaMem
import Derived.Lib.ItoaLen
import Derived.Test.YtnmalggmbeipaaaGreatDoorPbH
import Derived.Test.YtnmalggmbeipaaaGreatDoorPbU
import Derived.LaidSub
import Derived.Lay
namespace Go.Proofs.YtnmalggmbeipaaaGreatDoor
section
section
open Go Go.RowKit
end
section
open Go Go.RowKit
end
end
end Go.Proofs.YtnmalggmbeipaaaGreatDoor
namespace Go.Proofs.YtnmalggmbeipaaaGreatDoor.Reg
section
open Go Go.RowKit
section
variable {ops : Array Oper}
end
end
end Go.Proofs.YtnmalggmbeipaaaGreatDoor.Reg
namespace Go.Proofs.YtnmalggmbeipaaaGreatDoor
section
section
section
section
open Go Go.RowKit
def kTok (k : Int) : TokM := ⟨k,noW,0,0,false⟩
inductive TkS : TokM -> Prop
 | set (s : W4) (h : s.fit) : TkS ⟨0,s,0,0,false⟩
 | cap : TkS (kTok 1)
 | free : TkS (kTok 2)
 | shut : TkS (kTok 3)
 | bar : TkS (kTok 4)
 | count (lo hi : Int) (z : Bool) (h : countedR lo hi = true) : TkS ⟨5,noW,lo,hi,z⟩
theorem counted_iff {lo hi : Int} : countedR lo hi = true ↔ 0 <= lo /\ lo <= countM hi /\ countM hi <= 1000 := by
 unfold countedR;simp
end
end
section
section
open Go Go.RowKit
def joinA {α : Type} (sep : List α) : List (List α) -> List α
 | [] => []
 | p :: r => p ++ r.flatMap fun x => sep ++ x
theorem joinA_two {α : Type} (sep p q : List α) (r : List (List α)) : joinA sep (p :: q :: r) = p ++ (sep ++ joinA sep (q :: r)) := by
 simp [joinA]
theorem joinA_flat {α : Type} : ∀ l : List (List α),joinA [] l = l.flatten
 | [] => rfl
 | p :: r => by simp [joinA,List.flatMap_def]
def tkN (k : Int) (s : W4) (lo hi : Int) (z : Bool) (ls : List (List TokM)) : List TokM :=
 if k = 1 then [⟨0,s,0,0,false⟩] else if k = 2 then kTok 1 :: (ls.headD [] ++ [kTok 3]) else if k = 3 then kTok 2 :: (ls.headD [] ++ [kTok 3]) else if k = 4 then joinA [] ls else if k = 5 then joinA [kTok 4] ls
 else if k = 6 then ls.headD [] ++ [⟨5,noW,lo,hi,z⟩] else []
mutual
def tkT : Tr -> List TokM
 | .mk k s lo hi z _ _ l => tkN k s lo hi z (tkTs l)
def tkTs : List Tr -> List (List TokM)
 | [] => []
 | t :: r => tkT t :: tkTs r
def bare : Tr -> Tr
 | .mk k s lo hi z _ _ l => .mk k s lo hi z 0 0 (bares l)
def bares : List Tr -> List Tr
 | [] => []
 | t :: r => bare t :: bares r
def dpT : Tr -> Nat
 | .mk k _ _ _ _ _ _ l => (if k = 2 \/ k = 3 then 1 else 0) + dpTs l
def dpTs : List Tr -> Nat
 | [] => 0
 | t :: r => max (dpT t) (dpTs r)
end
theorem tkTs_map : ∀ l : List Tr,tkTs l = l.map tkT
 | [] => rfl
 | t :: r => by rw [tkTs,tkTs_map r];rfl
theorem dpTs_le : ∀ {l : List Tr} {c : Nat},(∀ t ∈ l,dpT t <= c) -> dpTs l <= c
 | [],c,_ => Nat.zero_le _
 | u :: r,c,h => by
  rw [dpTs];have h1 := h u (List.mem_cons_self ..);have h2 := dpTs_le (l := r) (fun t ht => h t (List.mem_cons_of_mem _ ht));omega
theorem tkT_eq (k : Int) (s : W4) (lo hi : Int) (z : Bool) (a b : Nat) (l : List Tr) : tkT (.mk k s lo hi z a b l) = tkN k s lo hi z (l.map tkT) := by rw [tkT,tkTs_map]
def IsSingle (t : Tr) : Prop := kdT t = 1 \/ kdT t = 2 \/ kdT t = 3
def IsItem (t : Tr) : Prop := kdT t = 1 \/ kdT t = 2 \/ kdT t = 3 \/ kdT t = 6
inductive RtT : Tr -> Prop
 | empty (a b : Nat) : RtT (.mk 0 noW 0 0 false a b [])
 | set (s : W4) (a b : Nat) (h : s.fit) : RtT (.mk 1 s 0 0 false a b [])
 | group (k : Int) (a b : Nat) (u : Tr) (hk : k = 2 \/ k = 3) (h : RtT u) : RtT (.mk k noW 0 0 false a b [u])
 | cat (a b : Nat) (l : List Tr) (hl : 2 <= l.length) (hi : ∀ t,t ∈ l -> IsItem t) (h : ∀ t,t ∈ l -> RtT t) : RtT (.mk 4 noW 0 0 false a b l)
 | alt (a b : Nat) (l : List Tr) (hl : 2 <= l.length) (hi : ∀ t,t ∈ l -> kdT t ≠ 5) (h : ∀ t,t ∈ l -> RtT t) : RtT (.mk 5 noW 0 0 false a b l)
 | rep (lo hi : Int) (z : Bool) (a b : Nat) (u : Tr) (hc : countedR lo hi = true) (hu : IsSingle u) (h : RtT u) : RtT (.mk 6 noW lo hi z a b [u])
def mt (L : Toks) : List TokM := L.map (·.1)
theorem mt_cons {L : Toks} {i : Nat} {x : TokM} {r : List TokM} (h : (mt L).drop i = x :: r) : kdR L i = x.kind /\ tkR L i = x /\ i < L.length /\ (mt L).drop (i + 1) = r := by
 have hlt : i < L.length := by
  rcases Nat.lt_or_ge i L.length with h' | h'
  ·exact h'
  ·rw [List.drop_eq_nil_of_le (by unfold mt;simpa using h')] at h;cases h
 have h1 : (mt L)[i]? = some x := by rw [<- List.head?_drop,h];rfl
 have h2 : ∃ y,L[i]? = some y /\ y.1 = x := by
  unfold mt at h1;rw [List.getElem?_map] at h1;exact Option.map_eq_some_iff.1 h1
 obtain ⟨y,h2,rfl⟩ := h2;refine ⟨by unfold kdR;rw [h2],by unfold tkR;rw [h2],hlt,?_⟩;rw [<- List.drop_drop,h];rfl
theorem mt_nil {L : Toks} {i : Nat} (h : (mt L).drop i = []) : kdR L i = -1 /\ L.length <= i := by
 have hle : L.length <= i := by
  have := congrArg List.length h;unfold mt at this;simp at this;omega
 exact ⟨by unfold kdR;rw [List.getElem?_eq_none hle],hle⟩
end
end
section
section
open Go Go.RowKit
end
end
section
section
open Go Go.RowKit
theorem count_S {s : ByteArray} {lo hi : Int} {k : Nat} (hc : countedR lo hi = true) (he : (countR s lo hi k).2.1 = 0) : TkS (countR s lo hi k).1 := by
 unfold countR at he ⊢
 split
 ·next h =>
  rw [if_pos h] at he
  split
  ·next h2 => rw [if_pos h2] at he;simp at he
  ·exact .count lo hi true hc
 ·next h =>
  rw [if_neg h] at he
  split
  ·next h2 => rw [if_pos h2] at he;simp at he
  ·exact .count lo hi false hc
theorem num_S {s : ByteArray} {a : Nat} (he : (numR s a).2.1 = 0) : 0 <= (numR s a).1 /\ (numR s a).1 <= 1000 := by
 unfold numR at he ⊢
 split
 ·next h => rw [if_pos h] at he;simp at he
 ·next h =>
  rw [if_neg h] at he
  split
  ·next h2 => rw [if_pos h2] at he;simp at he
  ·next h2 => dsimp only;omega
theorem shut_S {s : ByteArray} {lo hi : Int} {j : Nat} (hc : countedR lo hi = true) (he : (shutR s lo hi j).2.1 = 0) : TkS (shutR s lo hi j).1 := by
 unfold shutR at he ⊢
 split
 ·next h => rw [if_pos h] at he;exact count_S hc he
 ·next h => rw [if_neg h] at he;simp at he
theorem braces_S {s : ByteArray} {k : Nat} (he : (bracesR s k).2.1 = 0) : TkS (bracesR s k).1 := by
 unfold bracesR at he ⊢
 by_cases h1 : (numR s (k + 1)).2.1 ≠ 0
 ·rw [if_pos h1] at he;exact absurd he h1
 rw [if_neg h1] at he ⊢;have hn := num_S (s := s) (a := k + 1) (by omega);generalize numR s (k + 1) = r at *
 by_cases h2 : bAt s r.2.2 = 44
 ·rw [if_pos h2] at he ⊢
  by_cases h3 : (mostR s r.1 (r.2.2 + 1)).2.1 ≠ 0
  ·rw [if_pos h3] at he;exact absurd he h3
  rw [if_neg h3] at he ⊢;refine shut_S ?_ he;rw [counted_iff];unfold mostR at h3 ⊢
  by_cases h4 : bAt s (r.2.2 + 1) = 125
  ·rw [if_pos h4];unfold countM;rw [if_pos rfl];omega
  ·rw [if_neg h4] at h3 ⊢
   by_cases h5 : (numR s (r.2.2 + 1)).2.1 = 0 /\ (numR s (r.2.2 + 1)).1 < r.1
   ·rw [if_pos h5] at h3;simp at h3
   ·rw [if_neg h5] at h3 ⊢;have hm := num_S (s := s) (a := r.2.2 + 1) (by omega);unfold countM;rw [if_neg (by omega)];omega
 ·rw [if_neg h2] at he ⊢;refine shut_S ?_ he;rw [counted_iff];unfold countM;rw [if_neg (by omega)];omega
theorem token_S {s : ByteArray} {k : Nat} (hk : k < s.size) (he : (tokenR s k).2.1 = 0) : TkS (tokenR s k).1 := by
 unfold tokenR at he ⊢
 split
 ·exact .bar
 ·next h1 =>
  rw [if_neg h1] at he
  split
  ·next h2 =>
   rw [if_pos h2] at he;unfold openR at he ⊢
   split
   ·next h3 =>
    rw [if_pos h3] at he
    split
    ·exact .free
    ·next h4 => rw [if_neg h4] at he;simp at he
   ·exact .cap
  ·next h2 =>
   rw [if_neg h2] at he
   split
   ·exact .shut
   ·next h3 =>
    rw [if_neg h3] at he
    split
    ·next h4 =>
     rw [if_pos h4] at he;unfold signR at he ⊢
     split
     ·next h5 => rw [if_pos h5] at he;exact count_S (by decide) he
     ·next h5 =>
      rw [if_neg h5] at he
      split
      ·next h6 => rw [if_pos h6] at he;exact count_S (by decide) he
      ·next h6 => rw [if_neg h6] at he;exact count_S (by decide) he
    ·next h4 =>
     rw [if_neg h4] at he
     split
     ·next h5 => rw [if_pos h5] at he;exact braces_S he
     ·exact .set _ (setR_set hk).fit
theorem scanR_S {s : ByteArray} : ∀ (n k : Nat),∀ x ∈ (scanR s n k).1,TkS x.1
 | 0,k,x,h => by simp [scanR] at h
 | n + 1,k,x,h => by
  rw [scanR] at h
  by_cases h1 : s.size <= k
  ·rw [if_pos h1] at h;simp at h
  rw [if_neg h1] at h
  by_cases h2 : (tokenR s k).2.1 ≠ 0
  ·rw [if_pos h2] at h;simp at h
  rw [if_neg h2] at h
  by_cases h3 : (scanR s n (tokenR s k).2.2).2.1 ≠ 0
  ·rw [if_pos h3] at h;simp at h
  rw [if_neg h3] at h
  rcases List.mem_cons.1 h with rfl | h
  ·exact token_S (by omega) (by omega)
  ·exact scanR_S n _ x h
theorem thenR_inv {r : Res} {f : Nat -> Tr -> Res} {j : Nat} {t : Tr} (h : thenR r f = (0,j,some t)) : ∃ j' t',r = (0,j',some t') /\ f j' t' = (0,j,some t) := by
 obtain ⟨e,j',o⟩ := r;unfold thenR at h
 cases o with
 | none => simp at h
 | some t' =>
  dsimp only at h
  by_cases he : e = 0
  ·rw [if_pos he] at h;exact ⟨j',t',by rw [he],h⟩
  ·rw [if_neg he] at h;simp at h
theorem kd_take {L : Toks} (hL : ∀ x ∈ mt L,TkS x) {i : Nat} {k : Int} (h : kdR L i = k) (hk : k ≠ -1) : (mt L).drop i = tkR L i :: (mt L).drop (i + 1) /\ (tkR L i).kind = k /\ TkS (tkR L i) := by
 cases hd : (mt L).drop i with
 | nil => exact absurd ((mt_nil hd).1.symm.trans h).symm hk
 | cons x r =>
  obtain ⟨h1,h2,_,h4⟩ := mt_cons hd;rw [h2,h4];refine ⟨rfl,h1.symm.trans h,hL x ?_⟩;exact List.mem_of_mem_drop (i := i) (by rw [hd];exact List.mem_cons_self ..)
theorem tk_of_kind {x : TokM} (h : TkS x) {k : Int} (hk : x.kind = k) (h1 : k = 1 \/ k = 2 \/ k = 3 \/ k = 4) : x = kTok k := by
 subst hk
 cases h with
 | set s hs => exact absurd h1 (by show ¬ ((0 : Int) = 1 \/ (0 : Int) = 2 \/ (0 : Int) = 3 \/ (0 : Int) = 4);decide)
 | cap => rfl
 | free => rfl
 | shut => rfl
 | bar => rfl
 | count lo hi z hc => exact absurd h1 (by show ¬ ((5 : Int) = 1 \/ (5 : Int) = 2 \/ (5 : Int) = 3 \/ (5 : Int) = 4);decide)
theorem cat_right {d : Nat} (hd : d <= 200) {l : List Tr} (h : ∀ u ∈ l,RtT u /\ IsItem u /\ d + dpT u <= 200) (a b : Nat) : RtT (catR l a b) /\ kdT (catR l a b) ≠ 5 /\ d + dpT (catR l a b) <= 200 /\ tkT (catR l a b) = joinA [] (l.map tkT) := by
 match l,h with
 | [],_ => exact ⟨.empty a b,by show (0 : Int) ≠ 5;decide,hd,by show tkT (.mk 0 noW 0 0 false a b []) = _;rw [tkT_eq];rfl⟩
 | [u],h =>
  obtain ⟨h1,h2,h3⟩ := h u (List.mem_cons_self ..);refine ⟨h1,?_,h3,by simp [joinA];rfl⟩
  show kdT u ≠ 5
  unfold IsItem at h2;omega
 | u :: v :: q,h =>
  refine ⟨.cat a b _ (by simp) (fun t ht => (h t ht).2.1) (fun t ht => (h t ht).1),by show (4 : Int) ≠ 5;decide,?_,by show tkT (.mk 4 noW 0 0 false a b _) = _;rw [tkT_eq];rfl⟩
  show d + dpT (.mk 4 noW 0 0 false a b (u :: v :: q)) <= 200
  rw [dpT,if_neg (by decide)];have := dpTs_le (l := u :: v :: q) (c := 200 - d) (fun t ht => by have := (h t ht).2.2;omega);omega
theorem alt_right {d : Nat} {l : List Tr} (hl : l ≠ []) (h : ∀ u ∈ l,RtT u /\ kdT u ≠ 5 /\ d + dpT u <= 200) (a b : Nat) : RtT (joinR 5 l a b) /\ d + dpT (joinR 5 l a b) <= 200 /\ tkT (joinR 5 l a b) = joinA [kTok 4] (l.map tkT) := by
 match l,hl,h with
 | [u],_,h =>
  obtain ⟨h1,_,h3⟩ := h u (List.mem_cons_self ..);exact ⟨h1,h3,by simp [joinA];rfl⟩
 | u :: v :: q,_,h =>
  have hd : d <= 200 := by have := (h u (List.mem_cons_self ..)).2.2;omega
  refine ⟨.alt a b _ (by simp) (fun t ht => (h t ht).2.1) (fun t ht => (h t ht).1),?_,by show tkT (.mk 5 noW 0 0 false a b _) = _;rw [tkT_eq];rfl⟩
  show d + dpT (.mk 5 noW 0 0 false a b (u :: v :: q)) <= 200
  rw [dpT,if_neg (by decide)];have := dpTs_le (l := u :: v :: q) (c := 200 - d) (fun t ht => by have := (h t ht).2.2;omega);omega
structure Made1 (L : Toks) (d i j : Nat) (t : Tr) : Prop where
 right : RtT t
 deep : d + dpT t <= 200
 toks : (mt L).drop i = tkT t ++ (mt L).drop j
theorem back_all {L : Toks} (hL : ∀ x ∈ mt L,TkS x) (size : Nat) : ∀ n,
  (∀ d i j t,d <= 200 -> patF L size n d i = (0,j,some t) -> Made1 L d i j t) /\
  (∀ d i f acc j t,d <= 200 -> altsF L size n d i f acc = (0,j,some t) -> ∃ l a b,l ≠ [] /\ t = joinR 5 (acc ++ l) a b /\ (∀ u ∈ l,RtT u /\ kdT u ≠ 5 /\ d + dpT u <= 200) /\ (mt L).drop i = joinA [kTok 4] (l.map tkT) ++ (mt L).drop j) /\
  (∀ d i f acc j t,d <= 200 -> itemsF L size n d i f acc = (0,j,some t) -> ∃ l a b,t = catR (acc ++ l) a b /\ (∀ u ∈ l,RtT u /\ IsItem u /\ d + dpT u <= 200) /\ (mt L).drop i = joinA [] (l.map tkT) ++ (mt L).drop j) /\
  (∀ d i j t,d <= 200 -> itemF L size n d i = (0,j,some t) -> IsItem t /\ Made1 L d i j t) /\
  (∀ d i j t,d <= 200 -> singleF L size n d i = (0,j,some t) -> IsSingle t /\ Made1 L d i j t) /\
  (∀ d i k j t,d <= 200 -> (k = 2 \/ k = 3) -> kdR L i = k - 1 -> groupF L size n d i k = (0,j,some t) -> IsSingle t /\ Made1 L d i j t) := by
 intro n
 induction n with
 | zero =>
  refine ⟨fun d i j t _ h => ?_,fun d i f acc j t _ h => ?_,fun d i f acc j t _ h => ?_,fun d i j t _ h => ?_,fun d i j t _ h => ?_,fun d i k j t _ _ _ h => ?_⟩
  ·rw [patF] at h;simp at h
  ·rw [altsF] at h;simp at h
  ·rw [itemsF] at h;simp at h
  ·rw [itemF] at h;simp at h
  ·rw [singleF] at h;simp at h
  ·rw [groupF] at h;simp at h
 | succ n ih =>
  obtain ⟨i1,i2,i3,i4,i5,i6⟩ := ih;refine ⟨?_,?_,?_,?_,?_,?_⟩
  ·intro d i j t hd h;rw [patF] at h;obtain ⟨l,a,b,h1,rfl,h3,h4⟩ := i2 d i i [] j t hd h;obtain ⟨r1,r2,r3⟩ := alt_right h1 h3 a b;rw [List.nil_append];exact ⟨r1,r2,by rw [r3];exact h4⟩
  ·intro d i f acc j t hd h;rw [altsF] at h;obtain ⟨j',t',h1,h2⟩ := thenR_inv h;obtain ⟨l,a,b,rfl,h4,h5⟩ := i3 d i i [] j' t' hd h1;rw [List.nil_append] at h2;obtain ⟨r1,r2,r3,r4⟩ := cat_right hd h4 a b;rw [<- r4] at h5;generalize catR l a b = c at *
   by_cases hk : kdR L j' = 4
   ·rw [if_pos hk] at h2;obtain ⟨l2,a2,b2,g1,rfl,g3,g4⟩ := i2 d (j' + 1) f (acc ++ [c]) j t hd h2;obtain ⟨k1,k2,k3⟩ := kd_take hL hk (by decide);rw [tk_of_kind k3 k2 (by decide)] at k1;refine ⟨c :: l2,a2,b2,by simp,by simp,fun u hu => ?_,?_⟩
    ·rcases List.mem_cons.1 hu with rfl | hu
     ·exact ⟨r1,r2,r3⟩
     ·exact g3 u hu
    ·cases l2 with
     | nil => exact absurd rfl g1
     | cons v q =>
      rw [List.map_cons,List.map_cons,joinA_two,h5,k1,g4];simp
   ·rw [if_neg hk] at h2;simp only [Prod.mk.injEq,Option.some.injEq,true_and] at h2;obtain ⟨rfl,rfl⟩ := h2;refine ⟨[c],_,_,by simp,rfl,fun u hu => ?_,?_⟩
    ·obtain rfl : u = c := by simpa using hu
     exact ⟨r1,r2,r3⟩
    ·rw [h5];simp [joinA]
  ·intro d i f acc j t hd h;rw [itemsF] at h
   by_cases hs : L.length <= i \/ kdR L i = 4 \/ kdR L i = 3
   ·rw [if_pos hs] at h;simp only [Prod.mk.injEq,Option.some.injEq,true_and] at h;obtain ⟨rfl,rfl⟩ := h;exact ⟨[],_,_,by rw [List.append_nil],fun u hu => by simp at hu,rfl⟩
   ·rw [if_neg hs] at h;obtain ⟨j',t',h1,h2⟩ := thenR_inv h;obtain ⟨r1,r2⟩ := i4 d i j' t' hd h1;obtain ⟨l,a,b,rfl,g3,g4⟩ := i3 d j' f (acc ++ [t']) j t hd h2;refine ⟨t' :: l,a,b,by simp,fun u hu => ?_,?_⟩
    ·rcases List.mem_cons.1 hu with rfl | hu
     ·exact ⟨r2.right,r1,r2.deep⟩
     ·exact g3 u hu
    ·rw [r2.toks,g4,joinA_flat,joinA_flat];simp
  ·intro d i j t hd h;rw [itemF] at h;obtain ⟨j',t',h1,h2⟩ := thenR_inv h;obtain ⟨r1,r2⟩ := i5 d i j' t' hd h1
   by_cases hk : kdR L j' = 5
   ·rw [if_pos hk] at h2;simp only [Prod.mk.injEq,Option.some.injEq,true_and] at h2;obtain ⟨rfl,rfl⟩ := h2;obtain ⟨k1,k2,k3⟩ := kd_take hL hk (by decide)
    obtain ⟨lo,hi,z,hx,hc⟩ : ∃ lo hi z,tkR L j' = ⟨5,noW,lo,hi,z⟩ /\ countedR lo hi = true := by
     generalize tkR L j' = x at *
     cases k3 with
     | set s hs => exact absurd k2 (by show ¬ (0 : Int) = 5;decide)
     | cap => exact absurd k2 (by show ¬ (1 : Int) = 5;decide)
     | free => exact absurd k2 (by show ¬ (2 : Int) = 5;decide)
     | shut => exact absurd k2 (by show ¬ (3 : Int) = 5;decide)
     | bar => exact absurd k2 (by show ¬ (4 : Int) = 5;decide)
     | count lo hi z hc => exact ⟨lo,hi,z,rfl,hc⟩
    rw [hx] at k1 ⊢;refine ⟨.inr (.inr (.inr rfl)),.rep lo hi z _ _ t' hc r1 r2.right,?_,?_⟩
    ·show d + dpT (.mk 6 noW lo hi z _ _ [t']) <= 200
     rw [dpT,if_neg (by decide),dpTs,dpTs];have := r2.deep;omega
    ·have e : ∀ a b,tkT (.mk 6 noW lo hi z a b [t']) = tkT t' ++ [⟨5,noW,lo,hi,z⟩] := fun a b => by rw [tkT_eq];rfl
     rw [e,r2.toks,k1];simp
   ·rw [if_neg hk] at h2;simp only [Prod.mk.injEq,Option.some.injEq,true_and] at h2;obtain ⟨rfl,rfl⟩ := h2;refine ⟨?_,r2⟩
    rcases r1 with h | h | h
    ·exact .inl h
    ·exact .inr (.inl h)
    ·exact .inr (.inr (.inl h))
  ·intro d i j t hd h;rw [singleF] at h
   by_cases h0 : kdR L i = 0
   ·rw [if_pos h0] at h;simp only [Prod.mk.injEq,Option.some.injEq,true_and] at h;obtain ⟨rfl,rfl⟩ := h;obtain ⟨k1,k2,k3⟩ := kd_take hL h0 (by decide)
    obtain ⟨s,hx,hf⟩ : ∃ s,tkR L i = ⟨0,s,0,0,false⟩ /\ s.fit := by
     generalize tkR L i = x at *
     cases k3 with
     | set s hs => exact ⟨s,rfl,hs⟩
     | cap => exact absurd k2 (by show ¬ (1 : Int) = 0;decide)
     | free => exact absurd k2 (by show ¬ (2 : Int) = 0;decide)
     | shut => exact absurd k2 (by show ¬ (3 : Int) = 0;decide)
     | bar => exact absurd k2 (by show ¬ (4 : Int) = 0;decide)
     | count lo hi z hc => exact absurd k2 (by show ¬ (5 : Int) = 0;decide)
    rw [hx] at k1 ⊢;refine ⟨.inl rfl,.set s _ _ hf,hd,?_⟩;rw [tkT_eq,k1];rfl
   ·rw [if_neg h0] at h
    by_cases h1 : kdR L i = 1
    ·rw [if_pos h1] at h;exact i6 d i 2 j t hd (.inl rfl) (by omega) h
    ·rw [if_neg h1] at h
     by_cases h2 : kdR L i = 2
     ·rw [if_pos h2] at h;exact i6 d i 3 j t hd (.inr rfl) (by omega) h
     ·rw [if_neg h2] at h;simp at h
  ·intro d i k j t hd hk hkd h;rw [groupF] at h
   by_cases h200 : d = 200
   ·rw [if_pos h200] at h;simp at h
   rw [if_neg h200] at h;obtain ⟨j',t',h1,h2⟩ := thenR_inv h;have r := i1 (d + 1) (i + 1) j' t' (by omega) h1
   by_cases h3 : kdR L j' = 3
   ·rw [if_pos h3] at h2;simp only [Prod.mk.injEq,Option.some.injEq,true_and] at h2;obtain ⟨rfl,rfl⟩ := h2;obtain ⟨k1,k2,k3⟩ := kd_take hL hkd (by omega);obtain ⟨q1,q2,q3⟩ := kd_take hL h3 (by decide);rw [tk_of_kind k3 k2 (by omega)] at k1;rw [tk_of_kind q3 q2 (by decide)] at q1;refine ⟨?_,.group k _ _ t' hk r.right,?_,?_⟩
    ·rcases hk with rfl | rfl
     ·exact .inr (.inl rfl)
     ·exact .inr (.inr rfl)
    ·show d + dpT (.mk k noW 0 0 false _ _ [t']) <= 200
     rw [dpT,if_pos hk,dpTs,dpTs];have := r.deep;omega
    ·rw [tkT_eq,k1,r.toks,q1]
     rcases hk with rfl | rfl <;> simp [tkN]
   ·rw [if_neg h3] at h2;simp at h2
theorem parse_right {s : ByteArray} {t : Tr} (h : parseR s = (0,0,some t)) : RtT t /\ dpT t <= 200 /\ tkT t = mt (scanAll s).1 := by
 unfold parseR at h
 by_cases h1 : (scanAll s).2.1 ≠ 0
 ·rw [if_pos h1] at h;simp at h
 rw [if_neg h1] at h
 by_cases h2 : (wholeR (scanAll s).1 s.size).1 ≠ 0
 ·rw [if_pos h2] at h;simp at h
 rw [if_neg h2] at h;simp only [Prod.mk.injEq,true_and] at h;obtain ⟨⟨e,j,o⟩,hw⟩ : ∃ r,wholeR (scanAll s).1 s.size = r := ⟨_,rfl⟩;rw [hw] at h h2;have he : e = 0 := by simpa using h2
 subst he;have ho : o = some t := h;subst ho
 have hS : ∀ x ∈ mt (scanAll s).1,TkS x := by
  intro x hx;obtain ⟨y,hy,rfl⟩ := List.mem_map.1 hx;exact scanR_S _ _ y hy
 generalize (scanAll s).1 = L at *;unfold wholeR at hw;obtain ⟨j',t',g1,g2⟩ := thenR_inv hw;have m := (back_all hS s.size _).1 0 0 j' t' (by omega) g1
 by_cases hj : j' < L.length
 ·rw [if_pos hj] at g2;simp at g2
 rw [if_neg hj] at g2;simp only [Prod.mk.injEq,Option.some.injEq,true_and] at g2;obtain ⟨rfl,rfl⟩ := g2;have hd := m.deep;refine ⟨m.right,by omega,?_⟩;have ht := m.toks;have hnil : (mt L).drop j' = [] := List.drop_eq_nil_of_le (by unfold mt;simp;omega);rw [hnil,List.append_nil] at ht;simpa using ht.symm
theorem maxR_dp (l : List Tr) : maxR (l.map fun t => (dpT t : Int)) = (dpTs l : Int) := by
 have key : ∀ (l : List Tr) (a : Nat),(l.map fun t => (dpT t : Int)).foldl max (a : Int) = ((max a (dpTs l) : Nat) : Int) := by
  intro l
  induction l with
  | nil => intro a;simp [dpTs]
  | cons u r ih =>
   intro a;have e : max (a : Int) (dpT u : Int) = ((max a (dpT u) : Nat) : Int) := by omega
   rw [List.map_cons,List.foldl_cons,e,ih,dpTs];congr 1;omega
 have := key l 0;unfold maxR;rw [show (0 : Int) = ((0 : Nat) : Int) from rfl,this,Nat.zero_max]
theorem without_of {l : List Tr} {ks : List Int} (h : ∀ t ∈ l,¬ kdT t ∈ ks) : withoutR l ks = true := by
 unfold withoutR;rw [List.all_eq_true];intro t ht;simpa using h t ht
theorem rt_sound {t : Tr} (h : RtT t) : soundR t = true := by
 cases h with
 | empty a b => rfl
 | set s a b hs =>
  show (!soundS 1 s && (!soundN 1 0 0 false && soundK 1 0 0 [])) = true
  simp [soundS,soundN,soundK]
 | group k a b u hk _ =>
  show (!soundS k noW && (!soundN k 0 0 false && soundK k 0 0 [u])) = true
  have hw := without_of (l := [u]) (ks := []) (fun t _ => by simp)
  rcases hk with rfl | rfl <;> simp [soundS,soundN,soundK,hw,noSet,noW]
 | cat a b l hl hi hr =>
  show (!soundS 4 noW && (!soundN 4 0 0 false && soundK 4 0 0 l)) = true
  have hw := without_of (l := l) (ks := [0,4,5]) (fun t ht => by have := hi t ht;unfold IsItem at this;simp;omega);have h1 : 1 < l.length := by omega
  simp [soundS,soundN,soundK,hw,noSet,noW,h1]
 | alt a b l hl hi hr =>
  show (!soundS 5 noW && (!soundN 5 0 0 false && soundK 5 0 0 l)) = true
  have hw := without_of (l := l) (ks := [5]) (fun t ht => by have := hi t ht;simpa using this);have h1 : 1 < l.length := by omega
  simp [soundS,soundN,soundK,hw,noSet,noW,h1]
 | rep lo hi z a b u hc hs _ =>
  show (!soundS 6 noW && (!soundN 6 lo hi z && soundK 6 lo hi [u])) = true
  have hw := without_of (l := [u]) (ks := [0,4,5,6]) (fun t ht => by
   have e : t = u := by simpa using ht
   subst e;unfold IsSingle at hs
   simp;omega)
  simp [soundS,soundN,soundK,hw,noSet,noW,hc]
theorem rt_right {t : Tr} (h : RtT t) : foldR rightN t = (dpT t : Int) := by
 have step : ∀ (k : Int) (s : W4) (lo hi : Int) (z : Bool) (a b : Nat) (l : List Tr),RtT (.mk k s lo hi z a b l) -> (∀ u ∈ l,foldR rightN u = (dpT u : Int)) -> foldR rightN (.mk k s lo hi z a b l) = (dpT (.mk k s lo hi z a b l) : Int) := by
  intro k s lo hi z a b l h ih;rw [foldR_eq];have e : (prts (.mk k s lo hi z a b l)).map (foldR rightN) = l.map fun t => (dpT t : Int) := List.map_congr_left ih
  rw [e];unfold rightN;rw [if_pos (rt_sound h)]
  show (if k = 2 \/ k = 3 then maxR _ + 1 else maxR _) = _
  rw [maxR_dp,dpT]
  split <;> omega
 induction h with
 | empty a b => exact step _ _ _ _ _ _ _ _ (.empty a b) (fun u hu => by simp at hu)
 | set s a b hs => exact step _ _ _ _ _ _ _ _ (.set s a b hs) (fun u hu => by simp at hu)
 | group k a b u hk hu ih => exact step _ _ _ _ _ _ _ _ (.group k a b u hk hu) (fun v hv => by rw [List.mem_singleton.1 hv];exact ih)
 | cat a b l h1 h2 h3 ih => exact step _ _ _ _ _ _ _ _ (.cat a b l h1 h2 h3) ih
 | alt a b l h1 h2 h3 ih => exact step _ _ _ _ _ _ _ _ (.alt a b l h1 h2 h3) ih
 | rep lo hi z a b u hc hs hu ih => exact step _ _ _ _ _ _ _ _ (.rep lo hi z a b u hc hs hu) (fun v hv => by rw [List.mem_singleton.1 hv];exact ih)
theorem sums_item : ∀ l : List Tr,(∀ t ∈ l,trSize t + 3 <= 4 * (tkT t).length) -> trSizes l + 3 * l.length <= 4 * (joinA [] (l.map tkT)).length
 | [],_ => by simp [trSizes]
 | t :: r,h => by
  have h1 := h t (List.mem_cons_self ..);have h2 := sums_item r (fun u hu => h u (List.mem_cons_of_mem _ hu))
  have e : (joinA [] ((t :: r).map tkT)).length = (tkT t).length + (joinA [] (r.map tkT)).length := by
   rw [joinA_flat,joinA_flat];simp
  rw [e,trSizes,List.length_cons];omega
theorem sums_alt : ∀ l : List Tr,l ≠ [] -> (∀ t ∈ l,trSize t <= 4 * (tkT t).length + 1) -> trSizes l + 3 * l.length <= 4 * (joinA [kTok 4] (l.map tkT)).length + 4
 | [],h,_ => absurd rfl h
 | [t],_,h => by
  have h1 := h t (List.mem_cons_self ..);have e : (joinA [kTok 4] ([t].map tkT)).length = (tkT t).length := by simp [joinA]
  rw [e,trSizes,trSizes,List.length_cons,List.length_nil];omega
 | t :: u :: q,_,h => by
  have h1 := h t (List.mem_cons_self ..);have h2 := sums_alt (u :: q) (by simp) (fun v hv => h v (List.mem_cons_of_mem _ hv))
  have e : (joinA [kTok 4] ((t :: u :: q).map tkT)).length = (tkT t).length + (1 + (joinA [kTok 4] ((u :: q).map tkT)).length) := by
   rw [List.map_cons,List.map_cons,joinA_two,List.length_append,List.length_append];rfl
  rw [e,trSizes,List.length_cons];omega
theorem rt_sizes {t : Tr} (h : RtT t) : (IsItem t -> trSize t + 3 <= 4 * (tkT t).length) /\ (kdT t ≠ 5 -> trSize t <= 4 * (tkT t).length + 1) /\ trSize t <= 4 * (tkT t).length + 2 := by
 have sz : ∀ (k : Int) (s : W4) (lo hi : Int) (z : Bool) (a b : Nat) (l : List Tr),trSize (.mk k s lo hi z a b l) = 1 + trSizes l := fun k s lo hi z a b l => trSize_eq (.mk k s lo hi z a b l)
 have up : ∀ {t : Tr},trSize t + 3 <= 4 * (tkT t).length -> (IsItem t -> trSize t + 3 <= 4 * (tkT t).length) /\ (kdT t ≠ 5 -> trSize t <= 4 * (tkT t).length + 1) /\ trSize t <= 4 * (tkT t).length + 2 := fun h => ⟨fun _ => h,fun _ => by omega,by omega⟩
 induction h with
 | empty a b =>
  have : trSize (.mk 0 noW 0 0 false a b []) = 1 := by rw [sz,trSizes]
  refine ⟨fun h => absurd h (by rintro (h | h | h | h) <;> exact absurd h (by show ¬ (0 : Int) = _;decide)),fun _ => by omega,by omega⟩
 | set s a b hs =>
  refine up ?_;rw [sz,trSizes,tkT_eq]
  show 1 + 0 + 3 <= 4 * 1
  omega
 | group k a b u hk hu ih =>
  refine up ?_
  have e : (tkT (.mk k noW 0 0 false a b [u])).length = (tkT u).length + 2 := by
   rw [tkT_eq]
   rcases hk with rfl | rfl <;> simp [tkN]
  rw [e,sz,trSizes,trSizes];have := ih.2.2;omega
 | cat a b l hl hi _ ih =>
  have e : (tkT (.mk 4 noW 0 0 false a b l)).length = (joinA [] (l.map tkT)).length := by rw [tkT_eq];rfl
  have := sums_item l (fun t ht => (ih t ht).1 (hi t ht));rw [e,sz];refine ⟨fun h => absurd h (by rintro (h | h | h | h) <;> exact absurd h (by show ¬ (4 : Int) = _;decide)),fun _ => by omega,by omega⟩
 | alt a b l hl hi _ ih =>
  have e : (tkT (.mk 5 noW 0 0 false a b l)).length = (joinA [kTok 4] (l.map tkT)).length := by rw [tkT_eq];rfl
  have := sums_alt l (by intro h;subst h;simp at hl) (fun t ht => (ih t ht).2.1 (hi t ht));rw [e,sz];refine ⟨fun h => absurd h (by rintro (h | h | h | h) <;> exact absurd h (by show ¬ (5 : Int) = _;decide)),fun h => absurd rfl h,by omega⟩
 | rep lo hi z a b u hc hs hu ih =>
  refine up ?_;have e : (tkT (.mk 6 noW lo hi z a b [u])).length = (tkT u).length + 1 := by rw [tkT_eq];simp [tkN]
  have h1 : IsItem u := by rcases hs with h | h | h;exact .inl h;exact .inr (.inl h);exact .inr (.inr (.inl h))
  rw [e,sz,trSizes,trSizes];have := ih.1 h1;omega
end
end
section
section
open Go Go.RowKit
attribute [local go_sem ↓] Go.wp_at_zero Go.wp_at_succ
theorem whole_some {L : Toks} {size : Nat} (h : (wholeR L size).1 = 0) : ∃ t,(wholeR L size).2.2 = some t := by
 unfold wholeR at h ⊢
 rcases ((fit_all L size (6 * L.length + 6)).1 0 0 (Nat.zero_le _)).cases with ⟨j,t,hr,_,_⟩ | ⟨e,j,hr,he,_⟩
 ·rw [hr,thenR_ok] at h ⊢
  by_cases hj : j < L.length
  ·rw [if_pos hj] at h;exact absurd h (by simp)
  ·rw [if_neg hj];exact ⟨t,rfl⟩
 ·rw [hr,thenR_bad] at h;have : e = 0 := h;omega
theorem parseR_cases (s : ByteArray) : (∃ t,parseR s = (0,0,some t)) \/ ∃ e at_,parseR s = (e,at_,none) /\ e ≠ 0 := by
 unfold parseR
 by_cases h1 : (scanAll s).2.1 ≠ 0
 ·rw [if_pos h1];exact .inr ⟨_,_,rfl,h1⟩
 rw [if_neg h1]
 by_cases h2 : (wholeR (scanAll s).1 s.size).1 ≠ 0
 ·rw [if_pos h2];exact .inr ⟨_,_,rfl,h2⟩
 rw [if_neg h2];obtain ⟨t,ht⟩ := whole_some (by omega : (wholeR (scanAll s).1 s.size).1 = 0);exact .inl ⟨t,by rw [ht]⟩
end
end
end
section
open Go.ChangeShapes Go.WideShapes Go.ChangeAt Go.WideMaps Go.WideElems Go.RowKit
end
end
end Go.Proofs.YtnmalggmbeipaaaGreatDoor
