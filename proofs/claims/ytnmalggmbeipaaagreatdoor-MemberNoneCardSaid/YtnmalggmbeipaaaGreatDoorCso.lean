/- A part of the proof. -/
import Derived.Test.YtnmalggmbeipaaaGreatDoorCoK
import Derived.Test.YtnmalggmbeipaaaGreatDoorPbU
import Derived.Test.YtnmalggmbeipaaaGreatDoorRegion
import Derived.Test.YtnmalggmbeipaaaGreatDoorPrK
import Derived.Test.YtnmalggmbeipaaaGreatDoorCoC
namespace Go.Proofs.YtnmalggmbeipaaaGreatDoor
section
section
open Go Go.RowKit
structure CEnt where
 p : Option Nat
 q : Option Nat
 t : Co
 u : Co
variable {w : World} {p q : Option Nat} {t u : Co} {S : List CEnt} {D : List (Nat × Nat)} {x : CEnt}
end
end
end Go.Proofs.YtnmalggmbeipaaaGreatDoor
namespace Go.Proofs.YtnmalggmbeipaaaGreatDoor
section
section
open Go Go.RowKit
attribute [local go_sem ↓] Go.wp_at_zero Go.wp_at_succ
attribute [local go_sem] eq4
end
section
open Go Go.RowKit
attribute [local go_sem ↓] Go.wp_at_zero Go.wp_at_succ
attribute [local go_sem] eq4
end
end
end Go.Proofs.YtnmalggmbeipaaaGreatDoor
namespace Go.Proofs.YtnmalggmbeipaaaGreatDoor
section
section
open Go Go.RowKit
attribute [local go_sem ↓] Go.wp_at_zero Go.wp_at_succ
attribute [local go_sem] eq4
end
end
end Go.Proofs.YtnmalggmbeipaaaGreatDoor
namespace Go.Proofs.YtnmalggmbeipaaaGreatDoor
section
section
open Go Go.RowKit
end
end
end Go.Proofs.YtnmalggmbeipaaaGreatDoor
namespace Go.Proofs.YtnmalggmbeipaaaGreatDoor
section
section
open Go Go.RowKit
def WfC : Co -> Prop
 | .nil => False
 | .node k s z a b => s.fit /\ ((k = 0 /\ s = noW /\ z = false /\ a = .nil /\ b = .nil) \/ (k = 1 /\ z = false /\ a = .nil /\ b = .nil) \/ ((k = 2 \/ k = 3) /\ s = noW /\ z = false /\ WfC a /\ WfC b) \/ (k = 4 /\ s = noW /\ WfC a /\ b = .nil))
theorem WfC.ne {c : Co} (h : WfC c) : c ≠ .nil := by
 cases c with
 | nil => exact h.elim
 | node => exact Co.noConfusion
theorem wf_empty : WfC emptyC := ⟨noW_fit,.inl ⟨rfl,rfl,rfl,rfl,rfl⟩⟩
theorem wf_join {k : Int} (hk : k = 2 \/ k = 3) {c b : Co} (hc : WfC c) (hb : b = .nil \/ WfC b) : WfC (joinC k c b) := by
 rcases hb with rfl | hb
 ·exact hc
 ·rw [joinC_some _ _ _ hb.ne];exact ⟨noW_fit,.inr (.inr (.inl ⟨hk,rfl,rfl,hc,hb⟩))⟩
theorem wf_choice {z : Bool} {c : Co} (hc : WfC c) : WfC (choiceC z c) := by
 unfold choiceC
 split
 ·exact ⟨noW_fit,.inr (.inr (.inl ⟨.inr rfl,rfl,rfl,wf_empty,hc⟩))⟩
 ·exact ⟨noW_fit,.inr (.inr (.inl ⟨.inr rfl,rfl,rfl,hc,wf_empty⟩))⟩
theorem wf_joins {k : Int} (hk : k = 2 \/ k = 3) : ∀ (cs : List Co) (b : Co),(∀ c ∈ cs,WfC c) -> (b = .nil \/ WfC b) -> cs.foldr (joinC k) b = .nil \/ WfC (cs.foldr (joinC k) b)
 | [],_,_,hb => hb
 | c :: r,b,hc,hb => .inr (wf_join hk (hc c (List.mem_cons_self ..)) (wf_joins hk r b (fun c h => hc c (List.mem_cons_of_mem _ h)) hb))
theorem wf_tail (lo hi : Int) (z : Bool) {c : Co} (hc : WfC c) : tailC lo hi z c = .nil \/ WfC (tailC lo hi z c) := by
 unfold tailC
 split
 ·exact .inr ⟨noW_fit,.inr (.inr (.inr ⟨rfl,rfl,hc,rfl⟩))⟩
 ·generalize (hi - lo).toNat = n
  induction n with
  | zero => exact .inl rfl
  | succ n ih => exact .inr (wf_choice (wf_join (.inl rfl) hc ih))
theorem wf_core {t : Tr} (h : RtT t) : WfC (coreT t) := by
 have or_ : ∀ {c : Co},c = .nil \/ WfC c -> WfC (orEmpty c) := by
  intro c hc
  rcases hc with rfl | hc
  ·exact wf_empty
  ·cases c with
   | nil => exact hc.elim
   | node => exact hc
 induction h with
 | empty a b => rw [coreT];exact wf_empty
 | set s a b hs => rw [coreT];exact ⟨hs,.inr (.inl ⟨rfl,rfl,rfl,rfl⟩)⟩
 | group k a b u hk hu ih =>
  rw [coreT,coreTs_map]
  rcases hk with rfl | rfl <;> exact ih
 | cat a b l hl hi h ih =>
  rw [coreT,coreTs_map]
  rcases wf_joins (k := 2) (.inl rfl) (l.map coreT) .nil (fun c hc => by obtain ⟨u,hu,rfl⟩ := List.mem_map.1 hc;exact ih u hu) (.inl rfl) with e | e
  ·exact absurd e (joins_ne 2 _ _ (fun c hc => by obtain ⟨u,hu,rfl⟩ := List.mem_map.1 hc;exact core_ne (h u hu)) (.inl (by intro e;rw [List.map_eq_nil_iff] at e;subst e;simp at hl)))
  ·exact e
 | alt a b l hl hi h ih =>
  rw [coreT,coreTs_map]
  rcases wf_joins (k := 3) (.inr rfl) (l.map coreT) .nil (fun c hc => by obtain ⟨u,hu,rfl⟩ := List.mem_map.1 hc;exact ih u hu) (.inl rfl) with e | e
  ·exact absurd e (joins_ne 3 _ _ (fun c hc => by obtain ⟨u,hu,rfl⟩ := List.mem_map.1 hc;exact core_ne (h u hu)) (.inl (by intro e;rw [List.map_eq_nil_iff] at e;subst e;simp at hl)))
  ·exact e
 | rep lo hi z a b u hc hu h ih =>
  rw [coreT,coreTs_map];exact or_ (wf_joins (k := 2) (.inl rfl) _ _ (fun c hc => by rw [List.eq_of_mem_replicate hc];exact ih) (wf_tail lo hi z ih))
theorem allW_fit : allW.fit := ⟨nt_fit _,nt_fit _,nt_fit _,nt_fit _⟩
theorem wf_rest : WfC restC := ⟨noW_fit,.inr (.inr (.inr ⟨rfl,rfl,⟨allW_fit,.inr (.inl ⟨rfl,rfl,rfl,rfl⟩)⟩,rfl⟩))⟩
theorem wf_by (m : Int) {c : Co} (h : WfC c) : WfC (byC m c) := by
 unfold byC
 split
 ·exact wf_join (.inl rfl) h (.inr wf_rest)
 ·split
  ·exact wf_join (.inl rfl) wf_rest (.inr h)
  ·split
   ·exact wf_join (.inl rfl) wf_rest (.inr (wf_join (.inl rfl) h (.inr wf_rest)))
   ·exact h
end
end
end Go.Proofs.YtnmalggmbeipaaaGreatDoor
namespace Go.Proofs.YtnmalggmbeipaaaGreatDoor
section
section
open Go Go.RowKit
theorem pl_small {a b : Int} (ha : 0 <= a) (hb : 0 <= b) (h : pl a b < top) : pl a b = a + b := by
 unfold pl at h ⊢;rw [cnt_of ha,cnt_of hb] at h ⊢;exact sat_lt h
theorem sum_nn : ∀ {xs : List Int},(∀ x ∈ xs,0 <= x) -> 0 <= xs.sum
 | [],_ => Int.le_refl _
 | x :: r,h => by
  rw [List.sum_cons];have := h x (List.mem_cons_self ..);have := sum_nn (xs := r) (fun y hy => h y (List.mem_cons_of_mem _ hy));omega
theorem fold_small : ∀ (xs : List Int) (a : Int),0 <= a -> (∀ x ∈ xs,0 <= x) -> xs.foldl pl a < top -> xs.foldl pl a = a + xs.sum
 | [],a,_,_,_ => by simp
 | x :: r,a,ha,hx,h => by
  rw [List.foldl_cons] at h ⊢;have hr : ∀ y ∈ r,0 <= y := fun y hy => hx y (List.mem_cons_of_mem _ hy)
  have e := fold_small r (pl a x) (pl_nn _ _) hr h;have := sum_nn hr;have e2 := pl_small ha (hx x (List.mem_cons_self ..)) (by omega);rw [e,e2,List.sum_cons];omega
theorem adL_small {xs : List Int} (hx : ∀ x ∈ xs,0 <= x) (h : adL xs < top) : adL xs = xs.sum := by
 unfold adL at h ⊢;rw [fold_small xs 0 (Int.le_refl _) hx h];omega
theorem addS_small : ∀ (xs : List Int) (a : Int),0 <= a -> (∀ x ∈ xs,0 <= x) -> addS a xs < top -> addS a xs = a + xs.sum
 | [],a,_,_,_ => by simp [addS]
 | x :: r,a,ha,hx,h => by
  have hr : ∀ y ∈ r,0 <= y := fun y hy => hx y (List.mem_cons_of_mem _ hy)
  have hx0 := hx x (List.mem_cons_self ..);have e0 : addS a (x :: r) = addS (adL [a,x]) r := rfl;rw [e0] at h ⊢;have e := addS_small r (adL [a,x]) (adL_nn _) hr h;have := sum_nn hr
  have e2 := adL_small (xs := [a,x]) (fun y hy => by
   simp only [List.mem_cons,List.not_mem_nil,or_false] at hy
   rcases hy with rfl | rfl
   ·exact ha
   ·exact hx0) (by omega)
  rw [e,e2,List.sum_cons,List.sum_cons,List.sum_cons,List.sum_nil];omega
theorem muL_small {x y : Int} (hx : 0 <= x) (hxt : x <= top) (hy : 0 <= y) (h : muL [x,y] < top) : muL [x,y] = x * y := by
 have e : muL [x,y] = ti (ti 1 x) y := rfl;rw [e,ti_one x hx hxt] at h ⊢;unfold ti at h ⊢;rw [cnt_of hx,cnt_of hy] at h ⊢;exact sat_lt h
theorem pl_ge {a b : Int} (ha : 0 <= a) (hat : a <= top) (hb : 0 <= b) (hbt : b <= top) : a <= pl a b /\ b <= pl a b := by
 unfold pl;rw [cnt_of ha,cnt_of hb];unfold sat
 split <;> omega
theorem fold_ge : ∀ (xs : List Int) (a : Int),0 <= a -> a <= top -> (∀ x ∈ xs,0 <= x /\ x <= top) -> a <= xs.foldl pl a /\ ∀ x ∈ xs,x <= xs.foldl pl a
 | [],a,_,_,_ => ⟨Int.le_refl _,fun x h => by cases h⟩
 | x :: r,a,ha,hat,hx => by
  obtain ⟨hx0,hxt⟩ := hx x (List.mem_cons_self ..);obtain ⟨h1,h2⟩ := pl_ge ha hat hx0 hxt;obtain ⟨h3,h4⟩ := fold_ge r (pl a x) (pl_nn _ _) (pl_le _ _) (fun y hy => hx y (List.mem_cons_of_mem _ hy));rw [List.foldl_cons];refine ⟨Int.le_trans h1 h3,fun y hy => ?_⟩
  rcases List.mem_cons.1 hy with rfl | hy
  ·exact Int.le_trans h2 h3
  ·exact h4 y hy
theorem adL_ge {xs : List Int} (hx : ∀ x ∈ xs,0 <= x /\ x <= top) {x : Int} (h : x ∈ xs) : x <= adL xs := (fold_ge xs 0 (Int.le_refl _) (by unfold top;omega) hx).2 x h
theorem repM_ge {x lo hi : Int} (h0 : 0 <= x) (ht : x <= top) (hh : hi ≠ 0) : x <= repM x lo hi := by
 have m : ∀ u v : Int,0 <= muL [u,v] /\ muL [u,v] <= top := fun u v => ⟨ti_nn _ _,ti_le _ _⟩
 have t1 : (1 : Int) <= top /\ (2 : Int) <= top := by unfold top;omega
 unfold repM;simp only [if_neg hh]
 split
 ·refine adL_ge (fun y hy => ?_) (show x ∈ _ by simp);simp only [List.mem_cons,List.not_mem_nil,or_false] at hy
  rcases hy with rfl | rfl | rfl
  ·exact m _ _
  ·exact ⟨h0,ht⟩
  ·omega
 ·split
  ·refine adL_ge (fun y hy => ?_) (show x ∈ _ by simp);simp only [List.mem_cons,List.not_mem_nil,or_false] at hy
   rcases hy with rfl | rfl
   ·exact m _ _
   ·exact ⟨h0,ht⟩
  ·refine adL_ge (fun y hy => ?_) (show x ∈ _ by simp);simp only [List.mem_cons,List.not_mem_nil,or_false] at hy
   rcases hy with rfl | rfl | rfl | rfl
   ·exact m _ _
   ·exact m _ _
   ·exact ⟨h0,ht⟩
   ·omega
def szP : Co -> Nat
 | .nil => 0
 | c => coSize c + 1
theorem szP_ne {c : Co} (h : c ≠ .nil) : szP c = coSize c + 1 := by
 cases c with
 | nil => exact absurd rfl h
 | node => rfl
theorem szP_join (k : Int) (c b : Co) (hc : c ≠ .nil) : szP (joinC k c b) = coSize c + 1 + szP b := by
 cases b with
 | nil => rw [joinC_nil,szP_ne hc];rfl
 | node k' s z a' b' =>
  rw [joinC_some k c _ Co.noConfusion]
  show 1 + coSize c + coSize (.node k' s z a' b') + 1 = coSize c + 1 + (coSize (.node k' s z a' b') + 1)
  omega
theorem szP_joins (k : Int) : ∀ (cs : List Co) (b : Co),(∀ c ∈ cs,c ≠ .nil) -> szP (cs.foldr (joinC k) b) = (cs.map fun c => coSize c + 1).sum + szP b
 | [],b,_ => by simp
 | c :: r,b,h => by
  rw [List.foldr_cons,szP_join k c _ (h c (List.mem_cons_self ..)),szP_joins k r b (fun d hd => h d (List.mem_cons_of_mem _ hd)),List.map_cons,List.sum_cons];omega
theorem szP_rep (k : Int) (n : Nat) (c b : Co) (hc : c ≠ .nil) : szP ((List.replicate n c).foldr (joinC k) b) = n * (coSize c + 1) + szP b := by
 rw [szP_joins k _ _ (fun d hd => by rw [List.eq_of_mem_replicate hd];exact hc),List.map_replicate];congr 1
 induction n with
 | zero => simp
 | succ n ih => rw [List.replicate_succ,List.sum_cons,ih,Nat.succ_mul];omega
theorem choice_ne (z : Bool) (c : Co) : choiceC z c ≠ .nil := by
 unfold choiceC
 split <;> exact Co.noConfusion
theorem szP_choice (z : Bool) (c b : Co) (hc : c ≠ .nil) : szP (choiceC z (joinC 2 c b)) = coSize c + 3 + szP b := by
 have h1 := szP_join 2 c b hc;rw [szP_ne (joinC_ne 2 c b hc)] at h1;rw [szP_ne (choice_ne _ _)]
 have h2 : coSize (choiceC z (joinC 2 c b)) = 2 + coSize (joinC 2 c b) := by
  unfold choiceC
  split
  ·show 1 + 1 + coSize (joinC 2 c b) = _
   omega
  ·show 1 + coSize (joinC 2 c b) + 1 = _
   omega
 omega
theorem szP_tail (n : Nat) (z : Bool) (c : Co) (hc : c ≠ .nil) : szP ((List.replicate n c).foldr (fun c b => choiceC z (joinC 2 c b)) .nil) = n * (coSize c + 3) := by
 induction n with
 | zero => simp [szP]
 | succ n ih => rw [List.replicate_succ,List.foldr_cons,szP_choice z c _ hc,ih,Nat.succ_mul];omega
theorem orEmpty_size (c : Co) : coSize (orEmpty c) = if szP c = 0 then 1 else szP c - 1 := by
 cases c with
 | nil => rfl
 | node k s z a b =>
  have : szP (.node k s z a b) = coSize (.node k s z a b) + 1 := rfl;rw [this];rfl
theorem rep_size {lo hi : Int} (z : Bool) {c : Co} (hc : c ≠ .nil) (h0 : 0 <= lo) (h1 : lo <= 1000) (h2 : hi = -1 \/ (lo <= hi /\ hi <= 1000)) {x : Int} (hx : (coSize c : Int) = x) (hp : 1 <= x) (hr : repM x lo hi < top) : (coSize (repC lo hi z c) : Int) = repM x lo hi := by
 obtain ⟨a,rfl⟩ := Int.eq_ofNat_of_zero_le h0;have ht : (1000 : Int) < top := by unfold top;omega
 obtain ⟨s,hs⟩ : ∃ s : Nat,s = coSize c := ⟨_,rfl⟩;rw [<- hs] at hx
 have two : ∀ {u v : Int},0 <= u -> 0 <= v -> adL [u,v] < top -> adL [u,v] = u + v := fun hu hv h => by
  rw [adL_small (fun y hy => by
   simp only [List.mem_cons,List.not_mem_nil,or_false] at hy
   rcases hy with rfl | rfl <;> assumption) h]
  simp
 have three : ∀ {u v t : Int},0 <= u -> 0 <= v -> 0 <= t -> adL [u,v,t] < top -> adL [u,v,t] = u + v + t := fun hu hv ht h => by
  rw [adL_small (fun y hy => by
   simp only [List.mem_cons,List.not_mem_nil,or_false] at hy
   rcases hy with rfl | rfl | rfl <;> assumption) h]
  simp only [List.sum_cons,List.sum_nil];omega
 have add_le : ∀ k : Int,0 <= k -> 0 <= adL [x,k] := fun k _ => adL_nn _
 have mnn : ∀ u v : Int,0 <= muL [u,v] := fun u v => ti_nn _ _
 unfold repC;rw [orEmpty_size,szP_rep 2 _ _ _ hc,<- hs,Int.toNat_natCast];unfold repM at hr ⊢;unfold tailC
 by_cases e1 : hi = -1
 ·rw [if_pos e1] at hr ⊢;rw [if_pos e1];have q := three (mnn (a : Int) (adL [x,1])) (by omega) (by omega) hr
  have q1 : adL [x,1] = x + 1 := two (by omega) (by omega) (by
   have : adL [x,1] = pl (pl 0 x) 1 := rfl;rw [this,pl_zero x (by omega) (by have := mnn (a : Int) (adL [x,1]);omega)];unfold pl;rw [cnt_of (by omega),cnt_of (by omega),sat_self (by have := mnn (a : Int) (adL [x,1]);omega)];have := mnn (a : Int) (adL [x,1])
   omega)
  rw [q1] at q hr;have q2 := muL_small (x := (a : Int)) (y := x + 1) (by omega) (by omega) (by omega) (by omega);rw [q1,q,q2,<- hx];have e : szP (.node 4 noW z c .nil) = s + 2 := by rw [hs];show 1 + coSize c + 0 + 1 = _;omega
  rw [e,if_neg (by omega)];have : a * (s + 1) + (s + 2) - 1 = a * (s + 1) + s + 1 := by omega
  rw [this];simp
 ·rw [if_neg e1] at hr ⊢;rw [if_neg e1];obtain ⟨h3,h4⟩ := h2.resolve_left e1;obtain ⟨m,hm⟩ : ∃ m : Nat,hi - (a : Int) = (m : Int) := ⟨(hi - a).toNat,by omega⟩;rw [hm,Int.toNat_natCast,szP_tail m z c hc,<- hs]
  by_cases e2 : hi = 0
  ·rw [if_pos e2];have ha : a = 0 := by omega
   have hm0 : m = 0 := by omega
   rw [ha,hm0];simp
  ·rw [if_neg e2] at hr ⊢
   by_cases e3 : (a : Int) = hi
   ·rw [if_pos e3] at hr ⊢;have hm0 : m = 0 := by omega
    obtain ⟨b,hb⟩ : ∃ b,a = b + 1 := ⟨a - 1,by omega⟩;have hb1 : (a : Int) - 1 = (b : Int) := by omega
    rw [hb1] at hr ⊢;have q := two (mnn (b : Int) (adL [x,1])) (by omega) hr
    by_cases hb0 : b = 0
    ·subst hb0
     have q2 : muL [((0 : Nat) : Int),adL [x,1]] = 0 := by
      have : muL [((0 : Nat) : Int),adL [x,1]] = ti (ti 1 0) (adL [x,1]) := rfl;rw [this,ti_one 0 (by omega) (by omega)];unfold ti cnt;simp [sat,top]
     rw [q,q2,hb,hm0,<- hx];rw [if_neg (by omega)];simp
    ·have q1 : adL [x,1] = x + 1 := two (by omega) (by omega) (by
      have e : muL [(b : Int),adL [x,1]] = (b : Int) * adL [x,1] := muL_small (by omega) (by omega) (adL_nn _) (by omega);have h5 : 1 * adL [x,1] <= (b : Int) * adL [x,1] := Int.mul_le_mul_of_nonneg_right (by omega) (adL_nn _)
      omega)
     rw [q1] at q hr;have q2 := muL_small (x := (b : Int)) (y := x + 1) (by omega) (by omega) (by omega) (by omega);rw [q1,q,q2,<- hx,hb,hm0];rw [if_neg (by rw [Nat.succ_mul];omega),Nat.succ_mul];have : b * (s + 1) + (s + 1) + 0 * (s + 3) - 1 = b * (s + 1) + s := by omega
     rw [this];simp
   ·rw [if_neg e3] at hr ⊢;obtain ⟨b,hb⟩ : ∃ b,m = b + 1 := ⟨m - 1,by omega⟩;have hb1 : hi - (a : Int) - 1 = (b : Int) := by omega
    have hb2 : (m : Int) - 1 = (b : Int) := by omega
    rw [hb1] at hr;rw [hb2]
    have four : adL [muL [(a : Int),adL [x,1]],muL [(b : Int),adL [x,3]],x,2] = muL [(a : Int),adL [x,1]] + muL [(b : Int),adL [x,3]] + x + 2 := by
     rw [adL_small (fun y hy => by
      simp only [List.mem_cons,List.not_mem_nil,or_false] at hy
      rcases hy with rfl | rfl | rfl | rfl
      ·exact mnn _ _
      ·exact mnn _ _
      ·omega
      ·omega) hr]
     simp only [List.sum_cons,List.sum_nil];omega
    have n1 := mnn (a : Int) (adL [x,1]);have n2 := mnn (b : Int) (adL [x,3])
    have mul_of : ∀ (n : Nat) (k : Int),(n : Int) <= 1000 -> 0 <= k -> k <= 1000 -> muL [(n : Int),adL [x,k]] < top -> muL [(n : Int),adL [x,k]] + x + 2 < top -> muL [(n : Int),adL [x,k]] = (n : Int) * (x + k) := by
     intro n k hn hk0 hk h6 h7;have e : muL [(n : Int),adL [x,k]] = (n : Int) * adL [x,k] := muL_small (by omega) (by omega) (adL_nn _) h6
     by_cases hn0 : n = 0
     ·rw [e,hn0];simp
     ·have h5 : 1 * adL [x,k] <= (n : Int) * adL [x,k] := Int.mul_le_mul_of_nonneg_right (by omega) (adL_nn _);rw [e,two (by omega) hk0 (by omega)]
    rw [four] at hr ⊢;rw [mul_of a 1 (by omega) (by omega) (by omega) (by omega) (by omega),mul_of b 3 (by omega) (by omega) (by omega) (by omega) (by omega),<- hx,hb];rw [if_neg (by rw [Nat.succ_mul];omega),Nat.succ_mul];have : a * (s + 1) + (b * (s + 3) + (s + 3)) - 1 = a * (s + 1) + b * (s + 3) + s + 2 := by omega
    rw [this];simp
theorem core_size {t : Tr} (h : RtT t) : trSize t <= 1000000000 -> szT t < top -> (coSize (coreT t) : Int) = szT t := by
 have many : ∀ (k : Int) (l : List Tr),(∀ u ∈ l,RtT u) -> (∀ u ∈ l,szT u < top -> (coSize (coreT u) : Int) = szT u) -> 2 <= l.length -> addS ((l.length : Int) - 1) (l.map szT) < top -> (coSize ((l.map coreT).foldr (joinC k) .nil) : Int) = addS ((l.length : Int) - 1) (l.map szT) := by
  intro k l hr ih hl hs
  have hn : ∀ x ∈ l.map szT,0 <= x := fun x hx => by
   obtain ⟨u,hu,rfl⟩ := List.mem_map.1 hx;have := szT_pos (hr u hu);omega
  have e := addS_small _ _ (by omega) hn hs;rw [e] at hs ⊢
  have hne : ∀ c ∈ l.map coreT,c ≠ .nil := fun c hc => by
   obtain ⟨u,hu,rfl⟩ := List.mem_map.1 hc;exact core_ne (hr u hu)
  have q := szP_joins k (l.map coreT) .nil hne;rw [szP_ne (joins_ne k _ _ hne (.inl (by intro e;rw [List.map_eq_nil_iff] at e;subst e;simp at hl)))] at q
  have hsum : ∀ (r : List Tr),(∀ u ∈ r,u ∈ l) -> (((r.map coreT).map fun c => coSize c + 1).sum : Int) = (r.map szT).sum + r.length := by
   intro r
   induction r with
   | nil => intro _;simp
   | cons u r ihr =>
    intro hm;have hu := hm u (List.mem_cons_self ..)
    have le : szT u <= (l.map szT).sum := by
     have key : ∀ (xs : List Int),(∀ x ∈ xs,0 <= x) -> ∀ y ∈ xs,y <= xs.sum := by
      intro xs
      induction xs with
      | nil => intro _ y hy;cases hy
      | cons x xs ihx =>
       intro hxs y hy;rw [List.sum_cons];have h0 := hxs x (List.mem_cons_self ..);have h1 := sum_nn (xs := xs) (fun z hz => hxs z (List.mem_cons_of_mem _ hz))
       rcases List.mem_cons.1 hy with rfl | hy
       ·omega
       ·have := ihx (fun z hz => hxs z (List.mem_cons_of_mem _ hz)) y hy;omega
     exact key _ hn _ (List.mem_map_of_mem hu)
    have e1 := ih u hu (by omega);have e2 := ihr (fun v hv => hm v (List.mem_cons_of_mem _ hv));simp only [List.map_cons,List.sum_cons,List.length_cons];omega
  have hall := hsum l (fun _ h => h);have z0 : szP .nil = 0 := rfl;rw [z0] at q;omega
 induction h with
 | empty a b => intro _ _;rfl
 | set s a b hs => intro _ _;rfl
 | group k a b u hk hu ih =>
  intro hz hs;have hzu := trSize_part (u := .mk k noW 0 0 false a b [u]) (i := 0) (c := u) rfl
  have e : szT (.mk k noW 0 0 false a b [u]) = adL [0,szT u] := by
   rw [sz_many (by rcases hk with rfl | rfl <;> decide) _ _ _ _ _ _ (by simp)];rfl
  rw [e] at hs ⊢;have hp := szT_pos hu
  have e2 := adL_small (xs := [0,szT u]) (fun y hy => by
   simp only [List.mem_cons,List.not_mem_nil,or_false] at hy
   rcases hy with rfl | rfl <;> omega) hs
  rw [e2] at hs ⊢;simp only [List.sum_cons,List.sum_nil] at hs ⊢;have := ih (by omega) (by omega)
  have e3 : coreT (.mk k noW 0 0 false a b [u]) = coreT u := by
   rw [coreT,coreTs_map]
   rcases hk with rfl | rfl <;> rfl
  rw [e3];omega
 | cat a b l hl hi h ih =>
  intro hz hs;rw [sz_many (by decide) _ _ _ _ _ _ (by omega)] at hs ⊢;rw [coreT,coreTs_map];exact many 2 l h (fun u hu hs => ih u hu (by have h1 := trSize_mem hu;have h2 := trSize_eq (.mk 4 noW 0 0 false a b l);rw [show prts (.mk 4 noW 0 0 false a b l) = l from rfl] at h2;omega) hs) hl hs
 | alt a b l hl hi h ih =>
  intro hz hs;rw [sz_many (by decide) _ _ _ _ _ _ (by omega)] at hs ⊢;rw [coreT,coreTs_map];exact many 3 l h (fun u hu hs => ih u hu (by have h1 := trSize_mem hu;have h2 := trSize_eq (.mk 5 noW 0 0 false a b l);rw [show prts (.mk 5 noW 0 0 false a b l) = l from rfl] at h2;omega) hs) hl hs
 | rep lo hi z a b u hc hu h ih =>
  intro hz hs;have hzu := trSize_part (u := .mk 6 noW lo hi z a b [u]) (i := 0) (c := u) rfl
  have e : szT (.mk 6 noW lo hi z a b [u]) = repM (szT u) lo hi := by
   rw [szT,szTs_map];rfl
  rw [e] at hs ⊢
  obtain ⟨h1,h2,h3⟩ : 0 <= lo /\ lo <= countM hi /\ countM hi <= 1000 := by
   unfold countedR at hc;simpa using hc
  have hh : hi = -1 \/ (lo <= hi /\ hi <= 1000) := by
   by_cases hm : hi = -1
   ·exact .inl hm
   ·right
    unfold countM at h2 h3;rw [if_neg hm] at h2 h3;exact ⟨h2,h3⟩
  have hp := szT_pos h;have hne := core_ne h
  have ec : coreT (.mk 6 noW lo hi z a b [u]) = repC lo hi z (coreT u) := by
   rw [coreT,coreTs_map];rfl
  rw [ec]
  by_cases h6 : hi = 0
  ·have hl : lo = 0 := by omega
   subst h6;subst hl;rfl
  ·exact rep_size z hne h1 (by omega) hh (ih (by omega) (by have := repM_ge (lo := lo) (Int.le_trans (by omega) hp) (szT_bd u (by omega)).2 h6;omega)) hp hs
theorem rest_size : coSize restC = 2 := rfl
theorem by_size {m : Int} (hm : 0 <= m /\ m < 4) {c : Co} (hc : c ≠ .nil) : (coSize (byC m c) : Int) = coSize c + addM m := by
 have hr : restC ≠ .nil := Co.noConfusion
 have j : ∀ (a b : Co),a ≠ .nil -> b ≠ .nil -> coSize (joinC 2 a b) = coSize a + coSize b + 1 := fun a b ha hb => by
  rw [joinC_some 2 a b hb]
  show 1 + coSize a + coSize b = _
  omega
 unfold byC addM
 by_cases h1 : m = 1
 ·rw [if_pos h1,j c restC hc hr,rest_size,if_neg (by omega),if_neg (by omega)];omega
 ·by_cases h2 : m = 2
  ·rw [if_neg h1,if_pos h2,j restC c hr hc,rest_size,if_neg (by omega),if_neg (by omega)];omega
  ·by_cases h3 : m = 3
   ·rw [if_neg h1,if_neg h2,if_pos h3,j restC _ hr (joinC_ne 2 c restC hc),j c restC hc hr,rest_size,if_neg (by omega),if_pos h3];omega
   ·rw [if_neg h1,if_neg h2,if_neg h3];obtain rfl : m = 0 := by omega
    simp
end
end
end Go.Proofs.YtnmalggmbeipaaaGreatDoor
namespace Go.Proofs.YtnmalggmbeipaaaGreatDoor
section
section
open Go Go.RowKit
attribute [local go_sem ↓] Go.wp_at_zero Go.wp_at_succ
attribute [local go_sem] eq4
theorem parse_small {s : ByteArray} {t : Tr} (hs : s.size <= 400) (h : parseR s = (0,0,some t)) : trSize t <= 1000000000 := by
 obtain ⟨h1,h2,h3⟩ := parse_right h;have hl := scan_len' s;have h4 := (rt_sizes h1).2.2;rw [h3] at h4;unfold mt at h4;rw [List.length_map] at h4;omega
theorem adL_two_le {x y : Int} (hx : 1 <= x) (hxt : x <= top) (hy : 0 <= y) (h : adL [x,y] <= 4096) : adL [x,y] = x + y := by
 have e := adL_small (xs := [x,y]) (fun z hz => by
  simp only [List.mem_cons,List.not_mem_nil,or_false] at hz
  rcases hz with rfl | rfl <;> omega) (by unfold top;omega)
 rw [e];simp
def PO (s : ByteArray) (m : Int) (w' : World) (v : Value) (e : Int) : Prop :=
 (e ≠ 0 /\ v = .pointer none /\ ∀ t,parseR s = (0,0,some t) -> 4096 < adL [szT t,addM m]) \/ (e = 0 /\ ∃ t,parseR s = (0,0,some t) /\ adL [szT t,addM m] <= 4096 /\ CoAt w' (byC m (coreT t)) v)
theorem cparse_po (s : ByteArray) (m : Int) (hm : 0 <= m /\ m < 4) (hs : s.size <= 400) (w : World) (hT : Tab w) :
  Calls Tryz.prog 7 #[.string s,.int .i64 m] w fun x w' => ∃ v at_ e,x = .returned (.tuple #[v,.int .i64 at_,.int .i64 e]) /\ PO s m w' v e /\ Below w.heap.size w w' := by
 rcases parseR_cases s with ⟨t,h⟩ | ⟨e,a,h,he⟩
 ·obtain ⟨h1,h2,h3⟩ := parse_right h;refine (cparse_ok s m hm t (by omega) h h1 (by rw [rt_right h1];omega) (parse_small hs h) w hT).mono ?_;rintro x w' ⟨v,e,rfl,hb,hB⟩;refine ⟨v,0,e,rfl,?_,hB⟩
  rcases hb with ⟨g1,rfl,rfl⟩ | ⟨g1,rfl,g2⟩
  ·refine .inl ⟨by decide,rfl,fun t' h' => ?_⟩;rw [h] at h';obtain rfl : t = t' := by simpa using h'
   exact g1
  ·exact .inr ⟨rfl,t,h,g1,g2⟩
 ·refine (cparse_bad s m hm e a he (by omega) h w hT).mono ?_;rintro x w' ⟨rfl,hB⟩;exact ⟨_,a,e,rfl,.inl ⟨he,rfl,fun t h' => by rw [h] at h';simp at h'⟩,hB⟩
structure GC (c : Co) : Prop where
 wf : WfC c
 size : coSize c <= 4096
theorem po_good {s : ByteArray} {m : Int} {t : Tr} (hs : s.size <= 400) (hm : 0 <= m /\ m < 4) (h : parseR s = (0,0,some t)) (hz : adL [szT t,addM m] <= 4096) : GC (byC m (coreT t)) := by
 obtain ⟨h1,_,_⟩ := parse_right h;have hw := wf_core h1;have hb := szT_bd t (parse_small hs h);have e := adL_two_le (szT_pos h1) hb.2 (addM_nn m).1 hz;have hn := (addM_nn m).1;have hc := core_size h1 (parse_small hs h) (by unfold top;omega);have hy := by_size (m := m) hm hw.ne;exact ⟨wf_by m hw,by omega⟩
end
end
end Go.Proofs.YtnmalggmbeipaaaGreatDoor
