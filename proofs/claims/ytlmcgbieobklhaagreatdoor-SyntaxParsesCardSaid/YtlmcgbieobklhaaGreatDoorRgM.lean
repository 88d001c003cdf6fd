/- A part of the proof. -/
import Derived.Test.YtlmcgbieobklhaaGreatDoorPrK
namespace Go.Proofs.YtlmcgbieobklhaaGreatDoor
section
open Go Go.RowKit
def frF (L : Toks) (size : Nat) : Nat -> Nat -> Nat -> Bool -> Option (Nat × Int)
 | 0,_,deep,_ => if 0 < deep then some (size,4) else none
 | n + 1,i,deep,ahead =>
  if kdR L i = 0 then frF L size n (i + 1) deep true
  else if kdR L i = 1 \/ kdR L i = 2 then (if 200 <= deep then some (plR L size i,3) else frF L size n (i + 1) (deep + 1) false)
  else if kdR L i = 3 then (if deep = 0 then some (plR L size i,4) else frF L size n (i + 1) (deep - 1) true)
  else if kdR L i = 4 then frF L size n (i + 1) deep false
  else if ahead = true then frF L size n (i + 1) deep false else some (plR L size i,4)
def fr (L : Toks) (size i deep : Nat) (ahead : Bool) : Option (Nat × Int) := frF L size (L.length - i) i deep ahead
theorem fr_end {L : Toks} {size i deep : Nat} {ahead : Bool} (h : L.length <= i) : fr L size i deep ahead = if 0 < deep then some (size,4) else none := by
 unfold fr;rw [show L.length - i = 0 by omega,frF]
theorem fr_on {L : Toks} {size i deep : Nat} {ahead : Bool} (h : i < L.length) : fr L size i deep ahead =
  if kdR L i = 0 then fr L size (i + 1) deep true
  else if kdR L i = 1 \/ kdR L i = 2 then (if 200 <= deep then some (plR L size i,3) else fr L size (i + 1) (deep + 1) false)
  else if kdR L i = 3 then (if deep = 0 then some (plR L size i,4) else fr L size (i + 1) (deep - 1) true)
  else if kdR L i = 4 then fr L size (i + 1) deep false
  else if ahead = true then fr L size (i + 1) deep false else some (plR L size i,4) := by
 unfold fr;rw [show L.length - i = (L.length - (i + 1)) + 1 by omega,frF]
theorem pl_end {L : Toks} {size i : Nat} (h : L.length <= i) : plR L size i = size := by
 unfold plR;rw [List.getElem?_eq_none h]
theorem kd_range {L : Toks} (hL : ∀ x ∈ mt L,TkS x) {i : Nat} (h : i < L.length) : kdR L i = 0 \/ kdR L i = 1 \/ kdR L i = 2 \/ kdR L i = 3 \/ kdR L i = 4 \/ kdR L i = 5 := by
 cases hd : (mt L).drop i with
 | nil => have := (mt_nil hd).2;omega
 | cons x r =>
  rw [(mt_cons hd).1];have hx := hL x (List.mem_of_mem_drop (i := i) (by rw [hd];exact List.mem_cons_self ..))
  cases hx with
  | set s hs => exact .inl rfl
  | cap => exact .inr (.inl rfl)
  | free => exact .inr (.inr (.inl rfl))
  | shut => exact .inr (.inr (.inr (.inl rfl)))
  | bar => exact .inr (.inr (.inr (.inr (.inl rfl))))
  | count lo hi z hc => exact .inr (.inr (.inr (.inr (.inr rfl))))
def Told (L : Toks) (size i d : Nat) (a : Bool) (r : Res) (Stop : Nat -> Bool -> Prop) : Prop :=
 (∃ j t a',r = (0,j,some t) /\ i <= j /\ j <= L.length /\ fr L size i d a = fr L size j d a' /\ Stop j a') \/ ∃ e j,r = (e,j,none) /\ e ≠ 0 /\ fr L size i d a = some (plR L size j,e)
theorem mach_all {L : Toks} (hL : ∀ x ∈ mt L,TkS x) (size : Nat) : ∀ n,
  (∀ d i,i <= L.length -> d <= 200 -> 6 * (L.length - i) + 6 <= n -> Told L size i d false (patF L size n d i) fun j _ => L.length <= j \/ kdR L j = 3) /\
  (∀ d i f acc,i <= L.length -> d <= 200 -> 6 * (L.length - i) + 5 <= n -> Told L size i d false (altsF L size n d i f acc) fun j _ => L.length <= j \/ kdR L j = 3) /\
  (∀ d i f acc a,i <= L.length -> d <= 200 -> 6 * (L.length - i) + 4 <= n -> (a = true -> kdR L i ≠ 5) -> Told L size i d a (itemsF L size n d i f acc) fun j _ => L.length <= j \/ kdR L j = 4 \/ kdR L j = 3) /\
  (∀ d i a,i < L.length -> d <= 200 -> 6 * (L.length - i) + 3 <= n -> (a = true -> kdR L i ≠ 5) -> kdR L i ≠ 4 -> kdR L i ≠ 3 -> Told L size i d a (itemF L size n d i) fun j a' => i < j /\ (a' = true -> kdR L j ≠ 5)) /\
  (∀ d i a,i < L.length -> d <= 200 -> 6 * (L.length - i) + 2 <= n -> (a = true -> kdR L i ≠ 5) -> kdR L i ≠ 4 -> kdR L i ≠ 3 -> Told L size i d a (singleF L size n d i) fun j a' => i < j /\ a' = true) /\
  (∀ d i k a,i < L.length -> d <= 200 -> 6 * (L.length - i) + 1 <= n -> (kdR L i = 1 \/ kdR L i = 2) -> Told L size i d a (groupF L size n d i k) fun j a' => i < j /\ a' = true) := by
 intro n
 induction n with
 | zero =>
  refine ⟨fun d i _ _ h => by omega,fun d i f acc _ _ h => by omega,fun d i f acc a _ _ h => by omega,fun d i a _ _ h => by omega,fun d i a _ _ h => by omega,fun d i k a _ _ h => by omega⟩
 | succ n ih =>
  obtain ⟨i1,i2,i3,i4,i5,i6⟩ := ih;refine ⟨?_,?_,?_,?_,?_,?_⟩
  ·intro d i hi hd hn;rw [patF];exact i2 d i i [] hi hd (by omega)
  ·intro d i f acc hi hd hn;rw [altsF]
   rcases i3 d i i [] false hi hd (by omega) (fun h => by cases h) with ⟨j,t,a',hr,hij,hj,hf,hs⟩ | ⟨e,j,hr,he,hf⟩
   ·rw [hr,thenR_ok]
    by_cases hk : kdR L j = 4
    ·rw [if_pos hk];have hjl := kd_in hk (by decide)
     have hstep : fr L size j d a' = fr L size (j + 1) d false := by
      rw [fr_on hjl,if_neg (by omega),if_neg (by omega),if_neg (by omega),if_pos hk]
     rcases i2 d (j + 1) f (acc ++ [t]) (by omega) hd (by omega) with ⟨j2,t2,a2,hr2,h1,h2,h3,h4⟩ | ⟨e,j2,hr2,he,h3⟩
     ·exact .inl ⟨j2,t2,a2,hr2,by omega,h2,hf.trans (hstep.trans h3),h4⟩
     ·exact .inr ⟨e,j2,hr2,he,hf.trans (hstep.trans h3)⟩
    ·rw [if_neg hk];exact .inl ⟨j,_,a',rfl,hij,hj,hf,by rcases hs with h | h | h;exact .inl h;exact absurd h hk;exact .inr h⟩
   ·rw [hr,thenR_bad];exact .inr ⟨e,j,rfl,he,hf⟩
  ·intro d i f acc a hi hd hn ha;rw [itemsF]
   by_cases hs : L.length <= i \/ kdR L i = 4 \/ kdR L i = 3
   ·rw [if_pos hs];exact .inl ⟨i,_,a,rfl,jN _,hi,rfl,hs⟩
   ·rw [if_neg hs]
    rcases i4 d i a (by omega) hd (by omega) ha (by omega) (by omega) with ⟨j,t,a',hr,hij,hj,hf,hlt,ha'⟩ | ⟨e,j,hr,he,hf⟩
    ·rw [hr,thenR_ok]
     rcases i3 d j f (acc ++ [t]) a' hj hd (by omega) ha' with ⟨j2,t2,a2,hr2,h1,h2,h3,h4⟩ | ⟨e,j2,hr2,he,h3⟩
     ·exact .inl ⟨j2,t2,a2,hr2,by omega,h2,hf.trans h3,h4⟩
     ·exact .inr ⟨e,j2,hr2,he,hf.trans h3⟩
    ·rw [hr,thenR_bad];exact .inr ⟨e,j,rfl,he,hf⟩
  ·intro d i a hi hd hn ha h4 h3;rw [itemF]
   rcases i5 d i a hi hd (by omega) ha h4 h3 with ⟨j,t,a',hr,hij,hj,hf,hlt,rfl⟩ | ⟨e,j,hr,he,hf⟩
   ·rw [hr,thenR_ok]
    by_cases hk : kdR L j = 5
    ·rw [if_pos hk];have hjl := kd_in hk (by decide)
     have hstep : fr L size j d true = fr L size (j + 1) d false := by
      rw [fr_on hjl,if_neg (by omega),if_neg (by omega),if_neg (by omega),if_neg (by omega),if_pos rfl]
     exact .inl ⟨j + 1,_,false,rfl,by omega,by omega,hf.trans hstep,by omega,fun h => by cases h⟩
    ·rw [if_neg hk];exact .inl ⟨j,_,true,rfl,hij,hj,hf,hlt,fun _ => hk⟩
   ·rw [hr,thenR_bad];exact .inr ⟨e,j,rfl,he,hf⟩
  ·intro d i a hi hd hn ha h4 h3;rw [singleF]
   by_cases k0 : kdR L i = 0
   ·rw [if_pos k0];exact .inl ⟨i + 1,_,true,rfl,by omega,by omega,by rw [fr_on hi,if_pos k0],by omega,rfl⟩
   ·rw [if_neg k0]
    by_cases k1 : kdR L i = 1
    ·rw [if_pos k1];exact i6 d i 2 a hi hd (by omega) (.inl k1)
    ·rw [if_neg k1]
     by_cases k2 : kdR L i = 2
     ·rw [if_pos k2];exact i6 d i 3 a hi hd (by omega) (.inr k2)
     ·rw [if_neg k2];have k5 : kdR L i = 5 := by have := kd_range hL hi;omega
      have haf : a ≠ true := fun h => ha h k5
      refine .inr ⟨4,i,rfl,by decide,?_⟩;rw [fr_on hi,if_neg k0,if_neg (by omega),if_neg h3,if_neg h4,if_neg haf]
  ·intro d i k a hi hd hn hk;rw [groupF]
   have hstep : fr L size i d a = if 200 <= d then some (plR L size i,3) else fr L size (i + 1) (d + 1) false := by
    rw [fr_on hi,if_neg (by omega),if_pos hk]
   by_cases h200 : d = 200
   ·rw [if_pos h200];exact .inr ⟨3,i,rfl,by decide,by rw [hstep,if_pos (by omega)]⟩
   ·rw [if_neg h200];rw [if_neg (by omega)] at hstep
    rcases i1 (d + 1) (i + 1) hi (by omega) (by omega) with ⟨j,t,a',hr,hij,hj,hf,hs⟩ | ⟨e,j,hr,he,hf⟩
    ·rw [hr,thenR_ok]
     by_cases h3 : kdR L j = 3
     ·rw [if_pos h3];have hjl := kd_in h3 (by decide);refine .inl ⟨j + 1,_,true,rfl,by omega,by omega,hstep.trans (hf.trans ?_),by omega,rfl⟩;rw [fr_on hjl,if_neg (by omega),if_neg (by omega),if_pos h3,if_neg (by omega)];rfl
     ·rw [if_neg h3]
      have hje : L.length <= j := by rcases hs with h | h;exact h;exact absurd h h3
      refine .inr ⟨4,j,rfl,by decide,hstep.trans (hf.trans ?_)⟩;rw [fr_end hje,if_pos (by omega),pl_end hje]
    ·rw [hr,thenR_bad];exact .inr ⟨e,j,rfl,he,hstep.trans hf⟩
theorem whole_told {L : Toks} (hL : ∀ x ∈ mt L,TkS x) (size : Nat) :
  (∃ j t,wholeR L size = (0,j,some t) /\ fr L size 0 0 false = none) \/ ∃ e j,wholeR L size = (e,j,none) /\ e ≠ 0 /\ fr L size 0 0 false = some (plR L size j,e) := by
 unfold wholeR
 rcases (mach_all hL size (6 * L.length + 6)).1 0 0 (Nat.zero_le _) (by omega) (by omega) with ⟨j,t,a',hr,_,hj,hf,hs⟩ | ⟨e,j,hr,he,hf⟩
 ·rw [hr,thenR_ok]
  by_cases hlt : j < L.length
  ·rw [if_pos hlt]
   have h3 : kdR L j = 3 := by rcases hs with h | h;omega;exact h
   refine .inr ⟨4,j,rfl,by decide,hf.trans ?_⟩;rw [fr_on hlt,if_neg (by omega),if_neg (by omega),if_pos h3,if_pos rfl]
  ·rw [if_neg hlt];refine .inl ⟨j,t,rfl,hf.trans ?_⟩;rw [fr_end (by omega),if_neg (by omega)]
 ·rw [hr,thenR_bad];exact .inr ⟨e,j,rfl,he,hf⟩
mutual
inductive Spn (L : Toks) (size : Nat) : Nat -> Nat -> Tr -> Prop
 | empty (i : Nat) (hi : i <= L.length) : Spn L size i i (.mk 0 noW 0 0 false (plR L size i) (plR L size i) [])
 | set (i : Nat) (hk : kdR L i = 0) : Spn L size i (i + 1) (.mk 1 (tkR L i).set 0 0 false (plR L size i) (plR L size (i + 1)) [])
 | group (i j : Nat) (k : Int) (u : Tr) (hk : k = 2 \/ k = 3) (hi : kdR L i = k - 1) (hj : kdR L j = 3) (h : Spn L size (i + 1) j u) : Spn L size i (j + 1) (.mk k noW 0 0 false (plR L size i) (plR L size (j + 1)) [u])
 | cat (i j : Nat) (l : List Tr) (hl : 2 <= l.length) (h : SpnC L size i j l) : Spn L size i j (.mk 4 noW 0 0 false (plR L size i) (plR L size j) l)
 | alt (i j : Nat) (l : List Tr) (hl : 2 <= l.length) (h : SpnA L size i j l) : Spn L size i j (.mk 5 noW 0 0 false (plR L size i) (plR L size j) l)
 | rep (i j : Nat) (u : Tr) (hu : IsSingle u) (hj : kdR L j = 5) (h : Spn L size i j u) : Spn L size i (j + 1) (.mk 6 noW (tkR L j).lo (tkR L j).hi (tkR L j).lazy (plR L size i) (plR L size (j + 1)) [u])
inductive SpnC (L : Toks) (size : Nat) : Nat -> Nat -> List Tr -> Prop
 | nil (i : Nat) : SpnC L size i i []
 | cons (i j k : Nat) (t : Tr) (l : List Tr) (hi : IsItem t) (h : Spn L size i j t) (hc : SpnC L size j k l) : SpnC L size i k (t :: l)
inductive SpnA (L : Toks) (size : Nat) : Nat -> Nat -> List Tr -> Prop
 | one (i j : Nat) (t : Tr) (hk : kdT t ≠ 5) (h : Spn L size i j t) : SpnA L size i j [t]
 | cons (i j k : Nat) (t : Tr) (l : List Tr) (hk : kdT t ≠ 5) (h : Spn L size i j t) (hb : kdR L j = 4) (hc : SpnA L size (j + 1) k l) : SpnA L size i k (t :: l)
end
theorem SpnC.snoc {L : Toks} {size : Nat} : ∀ {l : List Tr} {i j k : Nat} {t : Tr},SpnC L size i j l -> IsItem t -> Spn L size j k t -> SpnC L size i k (l ++ [t])
 | [],i,j,k,t,h,hi,ht => by
  cases h
  exact .cons i k k t [] hi ht (.nil k)
 | u :: r,i,j,k,t,h,hi,ht => by
  cases h with
  | cons _ m _ _ _ hu h1 h2 => exact .cons i m k u (r ++ [t]) hu h1 (h2.snoc hi ht)
theorem SpnA.snoc {L : Toks} {size : Nat} : ∀ {l : List Tr} {i j k : Nat} {t : Tr},SpnA L size i j l -> kdR L j = 4 -> kdT t ≠ 5 -> Spn L size (j + 1) k t -> SpnA L size i k (l ++ [t])
 | [],i,j,k,t,h,_,_,_ => by cases h
 | [u],i,j,k,t,h,hb,hk,ht => by
  cases h with
  | one _ _ _ hu h1 => exact .cons i j k u [t] hu h1 hb (.one (j + 1) k t hk ht)
  | cons _ m _ _ _ hu h1 hb1 h2 => cases h2
 | u :: v :: r,i,j,k,t,h,hb,hk,ht => by
  cases h with
  | cons _ m _ _ _ hu h1 hb1 h2 => exact .cons i m k u (v :: r ++ [t]) hu h1 hb1 (h2.snoc hb hk ht)
theorem spn_cat {L : Toks} {size i j : Nat} (hi : i <= L.length) {l : List Tr} (h : SpnC L size i j l) : Spn L size i j (catR l (plR L size i) (plR L size j)) /\ kdT (catR l (plR L size i) (plR L size j)) ≠ 5 := by
 match l,h with
 | [],h => cases h;exact ⟨.empty i hi,by show (0 : Int) ≠ 5;decide⟩
 | [u],h =>
  cases h with
  | cons _ m _ _ _ hu h1 h2 =>
   cases h2
   refine ⟨h1,?_⟩
   show kdT u ≠ 5
   unfold IsItem at hu;omega
 | u :: v :: q,h => exact ⟨.cat i j _ (by simp) h,by show (4 : Int) ≠ 5;decide⟩
theorem spn_alt {L : Toks} {size i j : Nat} {l : List Tr} (h : SpnA L size i j l) : Spn L size i j (joinR 5 l (plR L size i) (plR L size j)) := by
 match l,h with
 | [u],h =>
  cases h with
  | one _ _ _ hu h1 => exact h1
  | cons _ m _ _ _ hu h1 hb h2 => cases h2
 | u :: v :: q,h => exact .alt i j _ (by simp) h
theorem spn_all {L : Toks} (size : Nat) : ∀ n,
  (∀ d i j t,i <= L.length -> patF L size n d i = (0,j,some t) -> Spn L size i j t) /\
  (∀ d i f acc j t,i <= L.length -> (acc = [] /\ f = i \/ ∃ m,m + 1 = i /\ kdR L m = 4 /\ SpnA L size f m acc) -> altsF L size n d i f acc = (0,j,some t) -> Spn L size f j t) /\
  (∀ d i f acc j t,f <= L.length -> SpnC L size f i acc -> itemsF L size n d i f acc = (0,j,some t) -> Spn L size f j t /\ kdT t ≠ 5) /\
  (∀ d i j t,itemF L size n d i = (0,j,some t) -> IsItem t /\ Spn L size i j t) /\
  (∀ d i j t,singleF L size n d i = (0,j,some t) -> IsSingle t /\ Spn L size i j t) /\
  (∀ d i k j t,(k = 2 \/ k = 3) -> kdR L i = k - 1 -> groupF L size n d i k = (0,j,some t) -> IsSingle t /\ Spn L size i j t) := by
 intro n
 induction n with
 | zero =>
  refine ⟨fun d i j t _ h => ?_,fun d i f acc j t _ _ h => ?_,fun d i f acc j t _ _ h => ?_,fun d i j t h => ?_,fun d i j t h => ?_,fun d i k j t _ _ h => ?_⟩
  ·rw [patF] at h;simp at h
  ·rw [altsF] at h;simp at h
  ·rw [itemsF] at h;simp at h
  ·rw [itemF] at h;simp at h
  ·rw [singleF] at h;simp at h
  ·rw [groupF] at h;simp at h
 | succ n ih =>
  obtain ⟨i1,i2,i3,i4,i5,i6⟩ := ih;refine ⟨?_,?_,?_,?_,?_,?_⟩
  ·intro d i j t hi h;rw [patF] at h;exact i2 d i i [] j t hi (.inl ⟨rfl,rfl⟩) h
  ·intro d i f acc j t hi hacc h;rw [altsF] at h;obtain ⟨j',t',h1,h2⟩ := thenR_inv h;obtain ⟨g1,g2⟩ := i3 d i i [] j' t' hi (.nil i) h1
   have hA : SpnA L size f j' (acc ++ [t']) := by
    rcases hacc with ⟨rfl,rfl⟩ | ⟨m,hm,hb,ha⟩
    ·exact .one f j' t' g2 g1
    ·subst hm;exact ha.snoc hb g2 g1
   by_cases hk : kdR L j' = 4
   ·rw [if_pos hk] at h2;exact i2 d (j' + 1) f (acc ++ [t']) j t (kd_in hk (by decide)) (.inr ⟨j',rfl,hk,hA⟩) h2
   ·rw [if_neg hk] at h2;simp only [Prod.mk.injEq,Option.some.injEq,true_and] at h2;obtain ⟨rfl,rfl⟩ := h2;exact spn_alt hA
  ·intro d i f acc j t hf hacc h;rw [itemsF] at h
   by_cases hs : L.length <= i \/ kdR L i = 4 \/ kdR L i = 3
   ·rw [if_pos hs] at h;simp only [Prod.mk.injEq,Option.some.injEq,true_and] at h;obtain ⟨rfl,rfl⟩ := h;exact spn_cat hf hacc
   ·rw [if_neg hs] at h;obtain ⟨j',t',h1,h2⟩ := thenR_inv h;obtain ⟨g1,g2⟩ := i4 d i j' t' h1;exact i3 d j' f (acc ++ [t']) j t hf (hacc.snoc g1 g2) h2
  ·intro d i j t h;rw [itemF] at h;obtain ⟨j',t',h1,h2⟩ := thenR_inv h;obtain ⟨g1,g2⟩ := i5 d i j' t' h1
   by_cases hk : kdR L j' = 5
   ·rw [if_pos hk] at h2;simp only [Prod.mk.injEq,Option.some.injEq,true_and] at h2;obtain ⟨rfl,rfl⟩ := h2;exact ⟨.inr (.inr (.inr rfl)),.rep i j' t' g1 hk g2⟩
   ·rw [if_neg hk] at h2;simp only [Prod.mk.injEq,Option.some.injEq,true_and] at h2;obtain ⟨rfl,rfl⟩ := h2;refine ⟨?_,g2⟩
    rcases g1 with h | h | h
    ·exact .inl h
    ·exact .inr (.inl h)
    ·exact .inr (.inr (.inl h))
  ·intro d i j t h;rw [singleF] at h
   by_cases h0 : kdR L i = 0
   ·rw [if_pos h0] at h;simp only [Prod.mk.injEq,Option.some.injEq,true_and] at h;obtain ⟨rfl,rfl⟩ := h;exact ⟨.inl rfl,.set i h0⟩
   ·rw [if_neg h0] at h
    by_cases h1 : kdR L i = 1
    ·rw [if_pos h1] at h;exact i6 d i 2 j t (.inl rfl) (by omega) h
    ·rw [if_neg h1] at h
     by_cases h2 : kdR L i = 2
     ·rw [if_pos h2] at h;exact i6 d i 3 j t (.inr rfl) (by omega) h
     ·rw [if_neg h2] at h;simp at h
  ·intro d i k j t hk hkd h;rw [groupF] at h
   by_cases h200 : d = 200
   ·rw [if_pos h200] at h;simp at h
   rw [if_neg h200] at h;obtain ⟨j',t',h1,h2⟩ := thenR_inv h;have g := i1 (d + 1) (i + 1) j' t' (kd_in hkd (by omega)) h1
   by_cases h3 : kdR L j' = 3
   ·rw [if_pos h3] at h2;simp only [Prod.mk.injEq,Option.some.injEq,true_and] at h2;obtain ⟨rfl,rfl⟩ := h2;refine ⟨?_,.group i j' k t' hk hkd h3 g⟩
    rcases hk with rfl | rfl
    ·exact .inr (.inl rfl)
    ·exact .inr (.inr rfl)
   ·rw [if_neg h3] at h2;simp at h2
theorem whole_spn {L : Toks} {size j : Nat} {t : Tr} (h : wholeR L size = (0,j,some t)) : j = L.length /\ Spn L size 0 L.length t := by
 unfold wholeR at h;obtain ⟨j',t',g1,g2⟩ := thenR_inv h;have hle := (fit_all L size (6 * L.length + 6)).1 0 0 (Nat.zero_le _);have h2 := (spn_all (L := L) size _).1 0 0 j' t' (Nat.zero_le _) g1
 by_cases hj : j' < L.length
 ·rw [if_pos hj] at g2;simp at g2
 rw [if_neg hj] at g2;simp only [Prod.mk.injEq,Option.some.injEq,true_and] at g2;obtain ⟨rfl,rfl⟩ := g2;rw [g1] at hle;have h3 := hle.le
 have e : j' = L.length := by
  have : j' <= L.length := h3;omega
 subst e;exact ⟨rfl,h2⟩
end
end Go.Proofs.YtlmcgbieobklhaaGreatDoor
