/- A part of the proof. -/
import Derived.Test.YtlmcgbieobklhaaGreatDoorPbH
import Derived.Test.YtlmcgbieobklhaaGreatDoorPbE
import Derived.Carry
import Derived.Deep.DeepCutAuto
set_option maxRecDepth 100000
set_option maxHeartbeats 16000000
namespace Go.Proofs.YtlmcgbieobklhaaGreatDoor
section
open Go Go.RowKit
attribute [local go_sem ↓] Go.wp_at_zero Go.wp_at_succ
attribute [local go_sem] eq4
theorem run_store_fncQ (P : Program) (w : World) (a : Addr) (f : Fn) (x y : Array Value) (m : Mode) : (store a (.func f x y) m).run P w = stored P w a (.func f x y) m := run_store P w a _ m rfl
attribute [local go_sem] run_store_fncQ
def isum (ps : List Int) : Int := ps.foldl (· + ·) 0
theorem isum_take (ps : List Int) (j : Nat) (x : Int) (h : ps[j]? = some x) : isum (ps.take (j + 1)) = isum (ps.take j) + x := by
 unfold isum;rw [List.take_add_one,h];simp
theorem isum_cons (x : Int) (ps : List Int) : isum (x :: ps) = x + isum ps := by
 have key : ∀ (l : List Int) (a : Int),l.foldl (· + ·) a = a + l.foldl (· + ·) 0 := by
  intro l
  induction l with
  | nil => intro a;simp
  | cons y l ih => intro a;rw [List.foldl_cons,List.foldl_cons,ih (a + y),ih (0 + y)];omega
 unfold isum;rw [List.foldl_cons,key];omega
theorem isum_le {ps : List Int} (h : ∀ x ∈ ps,0 <= x) (j : Nat) : 0 <= isum (ps.take j) /\ isum (ps.take j) <= isum ps := by
 induction ps generalizing j with
 | nil => simp [isum]
 | cons x ps ih =>
  have hx := h x (List.mem_cons_self ..);have ih := fun j => ih (fun y hy => h y (List.mem_cons_of_mem _ hy)) j
  cases j with
  | zero =>
   have := ih ps.length;rw [List.take_length] at this;rw [List.take_zero,isum_cons];simp [isum] at this ⊢;omega
  | succ j =>
   have := ih j;rw [List.take_succ_cons,isum_cons,isum_cons];omega
def cntN (o : Tr -> Int) (u : Tr) (ps : List Int) : Int := o u + isum ps
theorem cnt_bound (o : Tr -> Int) (ho : ∀ u,0 <= o u /\ o u <= 1) : ∀ (n : Nat) (u : Tr),trSize u <= n -> 0 <= foldR (cntN o) u /\ foldR (cntN o) u <= trSize u /\ 0 <= isum ((prts u).map (foldR (cntN o))) /\ isum ((prts u).map (foldR (cntN o))) <= trSizes (prts u) := by
 intro n
 induction n with
 | zero => intro u hu;have := trSize_pos u;omega
 | succ n ih =>
  intro u hu;have hs := trSize_eq u
  have key : ∀ l : List Tr,trSizes l <= n -> 0 <= isum (l.map (foldR (cntN o))) /\ isum (l.map (foldR (cntN o))) <= trSizes l := by
   intro l
   induction l with
   | nil => intro _;simp [isum,trSizes]
   | cons t l ihl =>
    intro hl;rw [trSizes] at hl ⊢;rw [List.map_cons,isum_cons];have h1 := ih t (by omega);have h2 := ihl (by omega);omega
  have := key (prts u) (by omega);have h2 := ho u;rw [foldR_eq];unfold cntN at *;omega
theorem cf_count1 (args : Array Value) (W : World) : (callFunc 67 args).run Tryz.prog W = .ok (.enter 67 args) W := by
 simp [callFunc,Tryz.func67,mark,Sem.run];rfl
theorem scount1_any (q cb : Nat) (fo : FuncId) (c : Int) (v : Value) (ps : List Int) (w : World) (hcf : ∀ args W,(callFunc fo args).run Tryz.prog W = .ok (.enter fo args) W) (hcb : w.cell? ⟨cb,0,none⟩ = some (.func (.func fo) #[] #[]))
  (hfo : Calls Tryz.prog fo #[ndPtr q] w fun e w' => e = .returned (.int .i64 c) /\ w' = w) (hc : 0 <= c /\ c <= 1) (hp : NumsAt w v ps) (h0 : ∀ x ∈ ps,0 <= x) (hs : isum ps <= 1099511627776) (hn : ps.length <= 1099511627776) :
  Calls Tryz.prog 67 (#[ndPtr q,v] ++ #[.pointer (some ⟨cb,0,none⟩)]) w fun e w' => e = .returned (.int .i64 (c + isum ps)) /\ w' = w := by
 obtain ⟨p,cap,rfl,hcells⟩ := hp;have HC := qhid hcells;have FO := qhid hfo;have H0 := qhid h0;clear hcells hfo h0
 go_enter Tryz.func67,Tryz.ntmps67
 go_wp2_with fail
 refine FO.out.mono ?_;rintro e w1 ⟨rfl,hw⟩;obtain rfl : w = w1 := hw.symm;clear FO
 go_wp2_with fail
 go_loopw [6,14] (fun a i wr => ∃ j : Nat,j <= ps.length /\ i = .int .i64 j /\ a = .int .i64 (c + isum (ps.take j)) /\ wr = w) (fun _ i _ => ps.length - (intOf i).toNat)
 case atStart => exact ⟨0,by omega,rfl,by simp [isum],rfl⟩
 case round =>
  obtain ⟨j,hj,rfl,rfl,hwr⟩ := hrel;obtain rfl : w = wr := hwr.symm
  by_cases hlt : j < ps.length
  ·obtain ⟨x,hx⟩ : ∃ x,ps[j]? = some x := ⟨_,List.getElem?_eq_getElem hlt⟩;obtain ⟨cc,rfl,hcl,hcell⟩ := HC.out j x hx;have HX0 := qhid (H0.out x (List.mem_of_getElem? hx));have HM := qhid (isum_take ps j x hx);have hb := isum_le H0.out j;have hb2 := isum_le H0.out (j + 1);rw [HM.out] at hb2;clear hx;obtain ⟨y,hy⟩ : ∃ y,y = c + isum (ps.take j) := ⟨_,rfl⟩;have hx0 : 0 <= x := HX0.out;rw [<- hy];have hmin : min x (9223372036854775807 - y) = x := by omega
   have HY := qhid hy;have hyr : 0 <= y /\ y <= 1099511627777 := by omega
   have hxr : x <= 1099511627777 := by omega
   clear hy hb hb2
   go_wp2_with fail
   go_roundw
   case rel => exact ⟨j + 1,by omega,by go_num,by rw [HM.out,HY.out];congr 1;omega,by first | rfl | trivial⟩
   case measure => simp [intOf];omega
  ·obtain rfl : j = ps.length := by omega
   have HT : Hid (isum (ps.take ps.length) = isum ps) := qhid (by rw [List.take_length]);rw [HT.out]
   go_wp2_with fail
   go_ret
   exact ⟨rfl,rfl⟩
theorem numc_count (w0 : World) (cb : Nat) (fo : FuncId) (o : Tr -> Int) (ho : ∀ u,0 <= o u /\ o u <= 1) (hcf : ∀ args W,(callFunc fo args).run Tryz.prog W = .ok (.enter fo args) W) (hcb : w0.heap[cb]? = some (.cells #[.func (.func fo) #[] #[]] 41))
  (hfo : ∀ (A : Nat -> Prop) X u q,NdAt X A u (ndPtr q) -> Calls Tryz.prog fo #[ndPtr q] X fun e w' => e = .returned (.int .i64 (o u)) /\ w' = X) : NumC 67 #[.pointer (some ⟨cb,0,none⟩)] (cntN o) w0 1099511000000 := by
 intro A X u q pv hX hu hN hp;have hlen := prts_len hN;have hb := cnt_bound o ho (trSize u) u (jN _);have hs := trSize_eq u;refine (scount1_any q cb fo (o u) pv _ X hcf ?_ (hfo A X u q hu) (ho u) hp (fun x hx => ?_) (by omega) (by simp;omega)).mono ?_
 ·rw [jC (below_kept hX hcb)];rfl
 ·obtain ⟨c,_,rfl⟩ := List.mem_map.1 hx;exact (cnt_bound o ho (trSize c) c (jN _)).1
 ·rintro e w' ⟨rfl,rfl⟩;rw [foldR_eq (cntN o) u];exact ⟨rfl,Below.refl _ _⟩
theorem scount_any (A : Nat -> Prop) (t : Tr) (q : Nat) (fo : FuncId) (o : Tr -> Int) (w : World) (ho : ∀ u,0 <= o u /\ o u <= 1) (hcf : ∀ args W,(callFunc fo args).run Tryz.prog W = .ok (.enter fo args) W)
  (hfo : ∀ (A : Nat -> Prop) X u q,NdAt X A u (ndPtr q) -> Calls Tryz.prog fo #[ndPtr q] X fun e w' => e = .returned (.int .i64 (o u)) /\ w' = X) (ht : NdAt w A t (ndPtr q)) (hs : trSize t <= 1099511000000) :
  Calls Tryz.prog 36 #[ndPtr q,.func (.func fo) #[] #[]] w fun e w' => e = .returned (.int .i64 (foldR (cntN o) t)) /\ Below w.heap.size w w' := by
 have hb := below1 w (.cells #[.func (.func fo) #[] #[]] 41);have FO := qhid (pfold_any cf_count1 (numc_count (w.alloc (.cells #[.func (.func fo) #[] #[]] 41)) w.heap.size fo o ho hcf (heap_new _ _) hfo) (fun u _ => by have := (cnt_bound o ho (trSize u) u (jN _)).1;omega) (by omega) t q A (ht.up hb) hs);have HB := qhid hb;generalize foldR (cntN o) t = d at *;clear ht hs hb hfo hcf
 go_enter Tryz.func36,Tryz.ntmps36
 go_wp2_with fail
 refine FO.out.mono ?_;rintro e w1 ⟨rfl,h1⟩;have H1 := qhid (HB.out.trans (h1.mono HB.out.size));clear h1 FO HB
 go_wp2_with fail
 exact bodyPost_ret (v := .int .i64 d) (by simp [results,Tryz.results36,go_sem]) rfl ⟨rfl,H1.out⟩
theorem cf_size1 (args : Array Value) (W : World) : (callFunc 37 args).run Tryz.prog W = .ok (.enter 37 args) W := by
 simp [callFunc,Tryz.func37,mark,Sem.run];rfl
theorem cf_groups1 (args : Array Value) (W : World) : (callFunc 38 args).run Tryz.prog W = .ok (.enter 38 args) W := by
 simp [callFunc,Tryz.func38,mark,Sem.run];rfl
def sizeN (_ : Tr) : Int := 1
def groupsN (u : Tr) : Int := if kdT u = 2 then 1 else 0
theorem size_is (_ : Tr) : ∀ (n : Nat) (t : Tr),trSize t <= n -> foldR (cntN sizeN) t = trSize t := by
 intro n
 induction n with
 | zero => intro u hu;have := trSize_pos u;omega
 | succ n ih =>
  intro u hu;have hs := trSize_eq u
  have key : ∀ l : List Tr,trSizes l <= n -> isum (l.map (foldR (cntN sizeN))) = trSizes l := by
   intro l
   induction l with
   | nil => intro _;simp [isum,trSizes]
   | cons t l ihl =>
    intro hl;rw [trSizes] at hl ⊢;rw [List.map_cons,isum_cons,ih t (by omega),ihl (by omega)];omega
  rw [foldR_eq];unfold cntN at *;rw [key (prts u) (by omega)];unfold sizeN;omega
theorem ssize1_any (q : Nat) (w : World) : Calls Tryz.prog 37 #[ndPtr q] w fun e w' => e = .returned (.int .i64 1) /\ w' = w := by
 go_enter Tryz.func37,Tryz.ntmps37
 go_wp2_with fail
 exact bodyPost_ret (v := .int .i64 1) (by simp [results,Tryz.results37,go_sem]) rfl ⟨rfl,rfl⟩
theorem sgroups1_any (A : Nat -> Prop) (q : Nat) (u : Tr) (w : World) (hu : NdAt w A u (ndPtr q)) : Calls Tryz.prog 38 #[ndPtr q] w fun e w' => e = .returned (.int .i64 (groupsN u)) /\ w' = w := by
 obtain ⟨k,s,lo,hi,z,a,b,l⟩ := u;obtain ⟨q',p,cap,e,_,hq,_⟩ := hu.head;injection e with e;injection e with e;injection e with e;subst e;have n0 := jC hq 0;simp only [List.getElem?_toArray,List.getElem?_cons_zero] at n0;have HG : Hid (groupsN (.mk k s lo hi z a b l) = if k = 2 then 1 else 0) := qhid rfl;generalize groupsN (.mk k s lo hi z a b l) = res at *;clear hu hq
 by_cases h2 : k = 2
 ·subst h2
  go_enter Tryz.func38,Tryz.ntmps38
  go_wp2_with fail
  exact bodyPost_ret (v := .int .i64 1) (by simp [results,Tryz.results38,go_sem]) rfl ⟨by rw [HG.out];rfl,rfl⟩
 ·have k2 : (k == 2) = false := by simpa using h2
  have HG2 : Hid (res = 0) := qhid (by rw [HG.out,if_neg h2]);clear h2 HG
  go_enter Tryz.func38,Tryz.ntmps38
  go_wp2_with fail
  exact bodyPost_ret (v := .int .i64 0) (by simp [results,Tryz.results38,go_sem]) rfl ⟨by rw [HG2.out],rfl⟩
theorem ssize_any (A : Nat -> Prop) (t : Tr) (q : Nat) (w : World) (ht : NdAt w A t (ndPtr q)) (hs : trSize t <= 1099511000000) :
  Calls Tryz.prog 12 #[ndPtr q] w fun e w' => e = .returned (.int .i64 (trSize t : Nat)) /\ Below w.heap.size w w' := by
 have CN := qhid (scount_any A t q 37 sizeN w (fun _ => by unfold sizeN;omega) cf_size1 (fun _ X _ q _ => ssize1_any q X) ht hs);rw [size_is t (trSize t) t (jN _)] at CN;generalize trSize t = d at *;clear ht
 go_enter Tryz.func12,Tryz.ntmps12
 go_wp2_with fail
 refine CN.out.mono ?_;rintro e w1 ⟨rfl,h1⟩;have H1 := qhid h1;clear h1 CN
 go_wp2_with fail
 exact bodyPost_ret (v := .int .i64 (d : Int)) (by simp [results,Tryz.results12,go_sem]) rfl ⟨rfl,H1.out⟩
theorem sgroups_any (A : Nat -> Prop) (t : Tr) (q : Nat) (w : World) (ht : NdAt w A t (ndPtr q)) (hs : trSize t <= 1099511000000) :
  Calls Tryz.prog 14 #[ndPtr q] w fun e w' => e = .returned (.int .i64 (foldR (cntN groupsN) t)) /\ Below w.heap.size w w' := by
 have CN := qhid (scount_any A t q 38 groupsN w (fun u => by unfold groupsN;split <;> omega) cf_groups1 (fun A X u q hu => sgroups1_any A q u X hu) ht hs);generalize foldR (cntN groupsN) t = d at *;clear ht hs
 go_enter Tryz.func14,Tryz.ntmps14
 go_wp2_with fail
 refine CN.out.mono ?_;rintro e w1 ⟨rfl,h1⟩;have H1 := qhid h1;clear h1 CN
 go_wp2_with fail
 exact bodyPost_ret (v := .int .i64 d) (by simp [results,Tryz.results14,go_sem]) rfl ⟨rfl,H1.out⟩
end
end Go.Proofs.YtlmcgbieobklhaaGreatDoor
