/- A part of the proof. -/
import Derived.Test.YtnmalggmbeipaaaGreatDoorWeU
import Derived.Test.YtnmalggmbeipaaaGreatDoorRegion
set_option maxRecDepth 100000
set_option maxHeartbeats 16000000
namespace Go.Proofs.YtnmalggmbeipaaaGreatDoor
section
section
open Go Go.RowKit
def hasS (s : W4) (b : Int) : Bool := hasW s.a s.b s.c s.d b
def arL (f : Wts) : Nat -> List (Nat × Int)
 | 0 => []
 | n + 1 => arL f n ++ (if 0 < f n then [(n,f n)] else [])
def arV (x : Nat × Int) : List Value := [.int .i64 (x.1 : Int),.int .i64 x.2]
theorem arL_lt (f : Wts) : ∀ (n : Nat) (x : Nat × Int),x ∈ arL f n -> x.1 < n /\ x.2 = f x.1 /\ 0 < x.2
 | 0,x,h => by cases h
 | n + 1,x,h => by
  rw [arL,List.mem_append] at h
  rcases h with h | h
  ·have := arL_lt f n x h;exact ⟨by omega,this.2⟩
  ·split at h
   ·obtain rfl := List.mem_singleton.1 h;exact ⟨by show n < n + 1;omega,rfl,by assumption⟩
   ·cases h
theorem arL_len (f : Wts) : ∀ n : Nat,(arL f n).length <= n
 | 0 => jN _
 | n + 1 => by
  have := arL_len f n;rw [arL,List.length_append]
  split <;> simp <;> omega
def adA (S : Nat -> W4) (b r : Int) (v : Wts) (x : Nat × Int) : Wts := if hasS (S x.1) b then updW v x.1 (pl (v x.1) (ti r x.2)) else v
def addA (S : Nat -> W4) (b r : Int) (l : List (Nat × Int)) (v : Wts) : Wts := l.foldl (adA S b r) v
theorem addA_take {S : Nat -> W4} {b r : Int} {l : List (Nat × Int)} {v : Wts} {k : Nat} {x : Nat × Int} (h : l[k]? = some x) : addA S b r (l.take (k + 1)) v = adA S b r (addA S b r (l.take k) v) x := by
 unfold addA;rw [List.take_add_one,h,List.foldl_append];rfl
def LeV (v : Wts) : Prop := ∀ p,0 <= v p /\ v p <= top
theorem leV_none : LeV noneW := fun _ => by unfold noneW top;omega
theorem LeV.ad {S : Nat -> W4} {b r : Int} {v : Wts} {x : Nat × Int} (h : LeV v) : LeV (adA S b r v x) := by
 unfold adA
 split
 ·intro p;unfold updW
  split
  ·exact ⟨pl_nn _ _,pl_le _ _⟩
  ·exact h p
 ·exact h
theorem LeV.add {S : Nat -> W4} {b r : Int} : ∀ {l : List (Nat × Int)} {v : Wts},LeV v -> LeV (addA S b r l v)
 | [],_,h => h
 | x :: l,_,h => LeV.add (l := l) (h.ad (x := x))
def poT (c : Co) : List (W4 × Wts) := folC c noneW 0
def poS (c : Co) (p : Nat) : W4 := ((poT c).getD p (noW,noneW)).1
def poN (c : Co) (p : Nat) : Wts := ((poT c).getD p (noW,noneW)).2
def poF (c : Co) (p : Nat) : List (Nat × Int) := arL (poN c p) (prtC c).places
theorem poT_len (c : Co) : (poT c).length = (prtC c).places := fol_len c noneW 0
theorem poT_at {c : Co} {p : Nat} (h : p < (prtC c).places) : (poT c)[p]? = some (poS c p,poN c p) := by
 have h' : p < (poT c).length := by rw [poT_len];exact h
 unfold poS poN;rw [List.getElem?_eq_getElem h',List.getD_eq_getElem?_getD,List.getElem?_eq_getElem h'];rfl
theorem poN_ok {c : Co} {p : Nat} (h : p < (prtC c).places) : WtOK (prtC c).places (poN c p) :=
 fol_ok c noneW 0 (prtC c).places (noneW_ok _) (by omega) _ (List.mem_of_getElem? (poT_at h))
def beginA (c : Co) (b : Int) : Wts := addA (poS c) b 1 (arL (prtC c).first (prtC c).places) noneW
def stA (c : Co) (b : Int) (v : Wts) (u : Wts) (p : Nat) : Wts := if 0 < v p then addA (poS c) b (v p) (poF c p) u else u
def stepA (c : Co) (b : Int) (v : Wts) : Nat -> Wts
 | 0 => noneW
 | k + 1 => stA c b v (stepA c b v k) k
def nextA (c : Co) (b : Int) (v : Wts) : Wts := stepA c b v (prtC c).places
theorem LeV.st {c : Co} {b : Int} {v u : Wts} {p : Nat} (h : LeV u) : LeV (stA c b v u p) := by
 unfold stA
 split
 ·exact h.add
 ·exact h
theorem stepA_le (c : Co) (b : Int) (v : Wts) : ∀ k,LeV (stepA c b v k)
 | 0 => leV_none
 | k + 1 => (stepA_le c b v k).st
def vecA (c : Co) (s : ByteArray) : Nat -> Wts
 | 0 => noneW
 | 1 => beginA c (bAt s 0)
 | k + 2 => nextA c (bAt s (k + 1)) (vecA c s (k + 1))
theorem vecA_le (c : Co) (s : ByteArray) : ∀ k,LeV (vecA c s k)
 | 0 => leV_none
 | 1 => leV_none.add
 | k + 2 => by
  rw [vecA];exact stepA_le _ _ _ _
def meetA (u v : Wts) (n : Nat) : Bool := (List.range n).any fun p => decide (0 < u p) && decide (0 < v p)
theorem meetA_succ (u v : Wts) (n : Nat) : meetA u v (n + 1) = (meetA u v n || (decide (0 < u n) && decide (0 < v n))) := by
 unfold meetA;rw [List.range_succ,List.any_append];simp
def dotA (u v : Wts) : Nat -> Int
 | 0 => 0
 | n + 1 => pl (dotA u v n) (ti (u n) (v n))
theorem dotA_le (u v : Wts) : ∀ n,dotA u v n <= top
 | 0 => by unfold dotA top;omega
 | _ + 1 => pl_le _ _
theorem arL_bd {f : Wts} {n : Nat} (hf : WtOK n f) : ∀ x ∈ arL f n,x.1 < n /\ 0 <= x.2 /\ x.2 <= top := fun x h => by
 obtain ⟨h1,h2,h3⟩ := arL_lt f n x h;exact ⟨h1,by omega,by rw [h2];exact (hf.bd _).2⟩
end
end
end Go.Proofs.YtnmalggmbeipaaaGreatDoor
namespace Go.Proofs.YtnmalggmbeipaaaGreatDoor
section
section
open Go Go.RowKit
attribute [local go_sem ↓] Go.wp_at_zero Go.wp_at_succ
attribute [local go_sem] eq4
def VecS (n : Nat) (f : Wts) (v : Value) (X : World) : Prop := ∃ g,v = .slice (some ⟨g,0,none⟩) n n /\ VecI X g n f
theorem vecS_up {n : Nat} {f : Wts} : Reg.UpP (fun (_ : Nat) b X => VecS n f b X) := fun _ _ _ _ hb ⟨g,e,h⟩ => ⟨g,e,h.up hb⟩
def wfirst3 (wb n : Nat) (m : Option Nat) (gh : Nat -> Value) : Nat -> Value
 | 0 => .pointer (some ⟨wb,0,none⟩)
 | 1 => .pointer (some ⟨wb,0,none⟩)
 | 2 => .pointer (some ⟨wb,0,none⟩)
 | 3 => .pointer (some ⟨wb,2,none⟩)
 | 4 => .map m
 | 5 => .pointer (some ⟨wb,0,none⟩)
 | 6 => .int .i64 (n : Int)
 | 7 => gh 7
 | 8 => gh 7
 | _ => undef
theorem wfirst3_7 {wb n : Nat} {m : Option Nat} {gh : Nat -> Value} {gx} {j : Nat} (h7 : j ≠ 7) (h8 : j ≠ 8) : wfirst3 wb n m (Reg.updP gh 7 gx) j = wfirst3 wb n m gh j := by
 unfold wfirst3
 split <;> first | rfl | exact absurd rfl ‹_› | (rw [Reg.updP_other _ _ (by decide)])
theorem wfirst_any (w : World) (wb : Nat) (c : Co) (h : WgAt w wb c) : Calls Tryz.prog 111 #[.pointer (some ⟨wb,0,none⟩)] w fun e w' => ∃ g,e = .returned (.slice (some ⟨g,0,none⟩) (prtC c).places (prtC c).places) /\ VecI w' g (prtC c).places (prtC c).first /\ Below w.heap.size w w' := by
 have HWG := qhid h;have hok := (prt_ok c).first;obtain ⟨⟨mf,ml,sp,fp,sc,fc,fs,hme,hwt,_,_,_,_⟩,h6⟩ := h;obtain ⟨f,hff⟩ : ∃ f,f = (prtC c).first := ⟨_,rfl⟩;obtain ⟨n,hn⟩ : ∃ n,n = (prtC c).places := ⟨_,rfl⟩;obtain ⟨m,hm⟩ : ∃ m,m = mf := ⟨_,rfl⟩;rw [<- hff] at hok hwt ⊢;rw [<- hn] at hok hme h6 ⊢;rw [<- hm] at hme hwt;have HME := qhid hme;have HOK := qhid hok;have HWT := qhid hwt;have HNP := qhid hn;have HNL := qhid h6;clear hme hok hwt hn h6 hff hm
 go_enter Tryz.func111,Tryz.ntmps111
 go_upto_region 3 with fail
 refine Reg.wp_region_H (wfirst3 wb n m) (Reg.MkP w [7] (fun _ b X => VecS n f b X)) (fun _ => undef) [0,1,2,3,4,5,6,7,8] (by rfl) (by kernel_rfl) (by kernel_rfl) ?_ ?_ ?_
 ·exact Reg.MkP.start _ _
 ·refine ⟨fun gh listed A X hI hcl hin hun hall => ⟨Reg.wanted_none rfl,?_⟩,?_⟩
  ·have e0 := hI.evo (d := 0) (by kernel_rfl) rfl;have HS := hI.st;have hR := HS;have hX := hR.bel;clear hI;have HS2 := qhid HS;clear HS hR hX;unfold Reg.Yields
   go_simp
   first | exact ⟨gh,fun _ _ => rfl,rfl,HS2.out.up (by simp) vecS_up (Below.refl _ _)⟩ | exact ⟨rfl,gh,fun _ _ => rfl,rfl,HS2.out.up (by simp) vecS_up (Below.refl _ _)⟩
  refine ⟨fun gh listed A X hI hcl hin hun hall => ⟨Reg.wanted_none rfl,?_⟩,?_⟩
  ·have e5 : A.tmps[5]? = some (.pointer (some ⟨wb,0,none⟩)) := hI.ev (i := 0) (d := 5) (by rfl) (hall ⟨0,.data⟩ (by simp) rfl);have HS := hI.st;have hR := HS;have hX := hR.bel;clear hI;have HS2 := qhid HS;clear HS hR hX;unfold Reg.Yields
   go_simp
   first | exact ⟨gh,fun _ _ => rfl,rfl,HS2.out.up (by simp) vecS_up (Below.refl _ _)⟩ | exact ⟨rfl,gh,fun _ _ => rfl,rfl,HS2.out.up (by simp) vecS_up (Below.refl _ _)⟩
  refine ⟨fun gh listed A X hI hcl hin hun hall => ⟨Reg.wanted_none rfl,?_⟩,?_⟩
  ·have e6 : A.tmps[6]? = some (.pointer (some ⟨wb,0,none⟩)) := hI.ev (i := 1) (d := 6) (by rfl) (hall ⟨1,.data⟩ (by simp) rfl);have HS := hI.st;have hR := HS;have hX := hR.bel;clear hI;have HS2 := qhid HS;clear HS hR hX;unfold Reg.Yields
   go_simp
   first | exact ⟨gh,fun _ _ => rfl,rfl,HS2.out.up (by simp) vecS_up (Below.refl _ _)⟩ | exact ⟨rfl,gh,fun _ _ => rfl,rfl,HS2.out.up (by simp) vecS_up (Below.refl _ _)⟩
  refine ⟨fun gh listed A X hI hcl hin hun hall => ⟨Reg.wanted_none rfl,?_⟩,?_⟩
  ·have e7 : A.tmps[7]? = some (.pointer (some ⟨wb,0,none⟩)) := hI.ev (i := 2) (d := 7) (by rfl) (hall ⟨2,.data⟩ (by simp) rfl);have HS := hI.st;have hR := HS;have hX := hR.bel;clear hI;have HS2 := qhid HS;clear HS hR hX;unfold Reg.Yields
   go_simp
   first | exact ⟨gh,fun _ _ => rfl,rfl,HS2.out.up (by simp) vecS_up (Below.refl _ _)⟩ | exact ⟨rfl,gh,fun _ _ => rfl,rfl,HS2.out.up (by simp) vecS_up (Below.refl _ _)⟩
  refine ⟨fun gh listed A X hI hcl hin hun hall => ⟨Reg.wanted_none rfl,?_⟩,?_⟩
  ·have e8 : A.tmps[8]? = some (.pointer (some ⟨wb,2,none⟩)) := hI.ev (i := 3) (d := 8) (by rfl) (hall ⟨3,.data⟩ (by simp) rfl);have HS := hI.st;have hR := HS;have hX := hR.bel;obtain ⟨_,_,g2,g3,_,_⟩ := wg_cells (Reg.heap_kept_up HME.out hX);clear hI;have HS2 := qhid HS;clear HS hR hX;unfold Reg.Yields
   go_simp
   first | exact ⟨gh,fun _ _ => rfl,rfl,HS2.out.up (by simp) vecS_up (Below.refl _ _)⟩ | exact ⟨rfl,gh,fun _ _ => rfl,rfl,HS2.out.up (by simp) vecS_up (Below.refl _ _)⟩
  refine ⟨fun gh listed A X hI hcl hin hun hall => ⟨Reg.wanted_none rfl,?_⟩,?_⟩
  ·have e0 := hI.evo (d := 0) (by kernel_rfl) rfl;have HS := hI.st;have hR := HS;have hX := hR.bel;clear hI;have HS2 := qhid HS;clear HS hR hX;unfold Reg.Yields
   go_simp
   first | exact ⟨gh,fun _ _ => rfl,rfl,HS2.out.up (by simp) vecS_up (Below.refl _ _)⟩ | exact ⟨rfl,gh,fun _ _ => rfl,rfl,HS2.out.up (by simp) vecS_up (Below.refl _ _)⟩
  refine ⟨fun gh listed A X hI hcl hin hun hall => ⟨Reg.wanted_none rfl,?_⟩,?_⟩
  ·have e10 : A.tmps[10]? = some (.pointer (some ⟨wb,0,none⟩)) := hI.ev (i := 5) (d := 10) (by rfl) (hall ⟨5,.data⟩ (by simp) rfl);have HS := hI.st;have hR := HS;have hX := hR.bel;have HM := qhid (places_any X wb c (HWG.out.up hX));rw [<- HNP.out] at HM;clear hI;have HS2 := qhid HS;clear HS hR hX;unfold Reg.Yields
   go_simp
   exact HM.out.mono fun e w2 ⟨he,hw⟩ => ⟨_,he,gh,fun _ _ => rfl,rfl,by rw [hw];exact HS2.out.up (by simp) vecS_up (Below.refl _ _)⟩
  refine ⟨fun gh listed A X hI hcl hin hun hall => ⟨Reg.wanted_none rfl,?_⟩,?_⟩
  ·have e9 : A.tmps[9]? = some (.map m) := hI.ev (i := 4) (d := 9) (by rfl) (hall ⟨4,.data⟩ (by simp) rfl);have e11 : A.tmps[11]? = some (.int .i64 (n : Int)) := hI.ev (i := 6) (d := 11) (by rfl) (hall ⟨6,.data⟩ (by simp) rfl);have HS := hI.st;have hR := HS;have hX := hR.bel;have HM := qhid (list_any X m f n (HWT.out.up hX) HOK.out (by have := HNL.out;omega));clear hI;have HS2 := qhid HS;clear HS hR hX;unfold Reg.Yields
   go_simp
   refine HM.out.mono ?_;rintro e w2 ⟨g2,he,hv,hb⟩;exact ⟨_,he,Reg.updP gh 7 (.slice (some ⟨g2,0,none⟩) n n),fun j hj => wfirst3_7 (j := j) (fun e => by rw [e] at hj;rw [hj] at hun;cases hun) (fun e => by rw [e] at hj;rw [Reg.closed_reach hcl 60 8 7 (by kernel_rfl) hj] at hun;cases hun),rfl,HS2.out.new _ vecS_up (hb) (⟨g2,rfl,hv⟩)⟩
  refine ⟨fun gh listed A X hI hcl hin hun hall => ⟨Reg.wanted_none rfl,?_⟩,?_⟩
  ·have e12 : A.tmps[12]? = some (gh 7) := hI.ev (i := 7) (d := 12) (by rfl) (hall ⟨7,.data⟩ (by simp) rfl);have HS := hI.st;have hR := HS;have hX := hR.bel;clear hI;have HS2 := qhid HS;clear HS hR hX;unfold Reg.Yields
   go_simp
   first | exact ⟨gh,fun _ _ => rfl,rfl,HS2.out.up (by simp) vecS_up (Below.refl _ _)⟩ | exact ⟨rfl,gh,fun _ _ => rfl,rfl,HS2.out.up (by simp) vecS_up (Below.refl _ _)⟩
  trivial
 ·intro gh X hS;have HB := qhid hS.bel;have HK7 := qhid (hS.at_ 7 (by simp) (by rfl));clear hS;simp [Reg.finalTmps,Reg.dstAt,Reg.valOf,wfirst3];obtain ⟨g,hg,hv⟩ := HK7.out;have HV := qhid hv;rw [hg];clear hg hv HK7
  go_wp2_with fail
  exact bodyPost_ret (v := .slice (some ⟨g,0,none⟩) n n) (by simp [results,Tryz.results111,go_sem]) rfl ⟨_,rfl,HV.out,HB.out⟩
def wlast3 (wb n : Nat) (m : Option Nat) (gh : Nat -> Value) : Nat -> Value
 | 0 => .pointer (some ⟨wb,0,none⟩)
 | 1 => .pointer (some ⟨wb,0,none⟩)
 | 2 => .pointer (some ⟨wb,0,none⟩)
 | 3 => .pointer (some ⟨wb,3,none⟩)
 | 4 => .map m
 | 5 => .pointer (some ⟨wb,0,none⟩)
 | 6 => .int .i64 (n : Int)
 | 7 => gh 7
 | 8 => gh 7
 | _ => undef
theorem wlast3_7 {wb n : Nat} {m : Option Nat} {gh : Nat -> Value} {gx} {j : Nat} (h7 : j ≠ 7) (h8 : j ≠ 8) : wlast3 wb n m (Reg.updP gh 7 gx) j = wlast3 wb n m gh j := by
 unfold wlast3
 split <;> first | rfl | exact absurd rfl ‹_› | (rw [Reg.updP_other _ _ (by decide)])
theorem wlast_any (w : World) (wb : Nat) (c : Co) (h : WgAt w wb c) : Calls Tryz.prog 61 #[.pointer (some ⟨wb,0,none⟩)] w fun e w' => ∃ g,e = .returned (.slice (some ⟨g,0,none⟩) (prtC c).places (prtC c).places) /\ VecI w' g (prtC c).places (prtC c).last /\ Below w.heap.size w w' := by
 have HWG := qhid h;have hok := (prt_ok c).last;obtain ⟨⟨mf,ml,sp,fp,sc,fc,fs,hme,_,hwt,_,_,_⟩,h6⟩ := h;obtain ⟨f,hff⟩ : ∃ f,f = (prtC c).last := ⟨_,rfl⟩;obtain ⟨n,hn⟩ : ∃ n,n = (prtC c).places := ⟨_,rfl⟩;obtain ⟨m,hm⟩ : ∃ m,m = ml := ⟨_,rfl⟩;rw [<- hff] at hok hwt ⊢;rw [<- hn] at hok hme h6 ⊢;rw [<- hm] at hme hwt;have HME := qhid hme;have HOK := qhid hok;have HWT := qhid hwt;have HNP := qhid hn;have HNL := qhid h6;clear hme hok hwt hn h6 hff hm
 go_enter Tryz.func61,Tryz.ntmps61
 go_upto_region 3 with fail
 refine Reg.wp_region_H (wlast3 wb n m) (Reg.MkP w [7] (fun _ b X => VecS n f b X)) (fun _ => undef) [0,1,2,3,4,5,6,7,8] (by rfl) (by kernel_rfl) (by kernel_rfl) ?_ ?_ ?_
 ·exact Reg.MkP.start _ _
 ·refine ⟨fun gh listed A X hI hcl hin hun hall => ⟨Reg.wanted_none rfl,?_⟩,?_⟩
  ·have e0 := hI.evo (d := 0) (by kernel_rfl) rfl;have HS := hI.st;have hR := HS;have hX := hR.bel;clear hI;have HS2 := qhid HS;clear HS hR hX;unfold Reg.Yields
   go_simp
   first | exact ⟨gh,fun _ _ => rfl,rfl,HS2.out.up (by simp) vecS_up (Below.refl _ _)⟩ | exact ⟨rfl,gh,fun _ _ => rfl,rfl,HS2.out.up (by simp) vecS_up (Below.refl _ _)⟩
  refine ⟨fun gh listed A X hI hcl hin hun hall => ⟨Reg.wanted_none rfl,?_⟩,?_⟩
  ·have e5 : A.tmps[5]? = some (.pointer (some ⟨wb,0,none⟩)) := hI.ev (i := 0) (d := 5) (by rfl) (hall ⟨0,.data⟩ (by simp) rfl);have HS := hI.st;have hR := HS;have hX := hR.bel;clear hI;have HS2 := qhid HS;clear HS hR hX;unfold Reg.Yields
   go_simp
   first | exact ⟨gh,fun _ _ => rfl,rfl,HS2.out.up (by simp) vecS_up (Below.refl _ _)⟩ | exact ⟨rfl,gh,fun _ _ => rfl,rfl,HS2.out.up (by simp) vecS_up (Below.refl _ _)⟩
  refine ⟨fun gh listed A X hI hcl hin hun hall => ⟨Reg.wanted_none rfl,?_⟩,?_⟩
  ·have e6 : A.tmps[6]? = some (.pointer (some ⟨wb,0,none⟩)) := hI.ev (i := 1) (d := 6) (by rfl) (hall ⟨1,.data⟩ (by simp) rfl);have HS := hI.st;have hR := HS;have hX := hR.bel;clear hI;have HS2 := qhid HS;clear HS hR hX;unfold Reg.Yields
   go_simp
   first | exact ⟨gh,fun _ _ => rfl,rfl,HS2.out.up (by simp) vecS_up (Below.refl _ _)⟩ | exact ⟨rfl,gh,fun _ _ => rfl,rfl,HS2.out.up (by simp) vecS_up (Below.refl _ _)⟩
  refine ⟨fun gh listed A X hI hcl hin hun hall => ⟨Reg.wanted_none rfl,?_⟩,?_⟩
  ·have e7 : A.tmps[7]? = some (.pointer (some ⟨wb,0,none⟩)) := hI.ev (i := 2) (d := 7) (by rfl) (hall ⟨2,.data⟩ (by simp) rfl);have HS := hI.st;have hR := HS;have hX := hR.bel;clear hI;have HS2 := qhid HS;clear HS hR hX;unfold Reg.Yields
   go_simp
   first | exact ⟨gh,fun _ _ => rfl,rfl,HS2.out.up (by simp) vecS_up (Below.refl _ _)⟩ | exact ⟨rfl,gh,fun _ _ => rfl,rfl,HS2.out.up (by simp) vecS_up (Below.refl _ _)⟩
  refine ⟨fun gh listed A X hI hcl hin hun hall => ⟨Reg.wanted_none rfl,?_⟩,?_⟩
  ·have e8 : A.tmps[8]? = some (.pointer (some ⟨wb,3,none⟩)) := hI.ev (i := 3) (d := 8) (by rfl) (hall ⟨3,.data⟩ (by simp) rfl);have HS := hI.st;have hR := HS;have hX := hR.bel;obtain ⟨_,_,g2,g3,_,_⟩ := wg_cells (Reg.heap_kept_up HME.out hX);clear hI;have HS2 := qhid HS;clear HS hR hX;unfold Reg.Yields
   go_simp
   first | exact ⟨gh,fun _ _ => rfl,rfl,HS2.out.up (by simp) vecS_up (Below.refl _ _)⟩ | exact ⟨rfl,gh,fun _ _ => rfl,rfl,HS2.out.up (by simp) vecS_up (Below.refl _ _)⟩
  refine ⟨fun gh listed A X hI hcl hin hun hall => ⟨Reg.wanted_none rfl,?_⟩,?_⟩
  ·have e0 := hI.evo (d := 0) (by kernel_rfl) rfl;have HS := hI.st;have hR := HS;have hX := hR.bel;clear hI;have HS2 := qhid HS;clear HS hR hX;unfold Reg.Yields
   go_simp
   first | exact ⟨gh,fun _ _ => rfl,rfl,HS2.out.up (by simp) vecS_up (Below.refl _ _)⟩ | exact ⟨rfl,gh,fun _ _ => rfl,rfl,HS2.out.up (by simp) vecS_up (Below.refl _ _)⟩
  refine ⟨fun gh listed A X hI hcl hin hun hall => ⟨Reg.wanted_none rfl,?_⟩,?_⟩
  ·have e10 : A.tmps[10]? = some (.pointer (some ⟨wb,0,none⟩)) := hI.ev (i := 5) (d := 10) (by rfl) (hall ⟨5,.data⟩ (by simp) rfl);have HS := hI.st;have hR := HS;have hX := hR.bel;have HM := qhid (places_any X wb c (HWG.out.up hX));rw [<- HNP.out] at HM;clear hI;have HS2 := qhid HS;clear HS hR hX;unfold Reg.Yields
   go_simp
   exact HM.out.mono fun e w2 ⟨he,hw⟩ => ⟨_,he,gh,fun _ _ => rfl,rfl,by rw [hw];exact HS2.out.up (by simp) vecS_up (Below.refl _ _)⟩
  refine ⟨fun gh listed A X hI hcl hin hun hall => ⟨Reg.wanted_none rfl,?_⟩,?_⟩
  ·have e9 : A.tmps[9]? = some (.map m) := hI.ev (i := 4) (d := 9) (by rfl) (hall ⟨4,.data⟩ (by simp) rfl);have e11 : A.tmps[11]? = some (.int .i64 (n : Int)) := hI.ev (i := 6) (d := 11) (by rfl) (hall ⟨6,.data⟩ (by simp) rfl);have HS := hI.st;have hR := HS;have hX := hR.bel;have HM := qhid (list_any X m f n (HWT.out.up hX) HOK.out (by have := HNL.out;omega));clear hI;have HS2 := qhid HS;clear HS hR hX;unfold Reg.Yields
   go_simp
   refine HM.out.mono ?_;rintro e w2 ⟨g2,he,hv,hb⟩;exact ⟨_,he,Reg.updP gh 7 (.slice (some ⟨g2,0,none⟩) n n),fun j hj => wlast3_7 (j := j) (fun e => by rw [e] at hj;rw [hj] at hun;cases hun) (fun e => by rw [e] at hj;rw [Reg.closed_reach hcl 60 8 7 (by kernel_rfl) hj] at hun;cases hun),rfl,HS2.out.new _ vecS_up (hb) (⟨g2,rfl,hv⟩)⟩
  refine ⟨fun gh listed A X hI hcl hin hun hall => ⟨Reg.wanted_none rfl,?_⟩,?_⟩
  ·have e12 : A.tmps[12]? = some (gh 7) := hI.ev (i := 7) (d := 12) (by rfl) (hall ⟨7,.data⟩ (by simp) rfl);have HS := hI.st;have hR := HS;have hX := hR.bel;clear hI;have HS2 := qhid HS;clear HS hR hX;unfold Reg.Yields
   go_simp
   first | exact ⟨gh,fun _ _ => rfl,rfl,HS2.out.up (by simp) vecS_up (Below.refl _ _)⟩ | exact ⟨rfl,gh,fun _ _ => rfl,rfl,HS2.out.up (by simp) vecS_up (Below.refl _ _)⟩
  trivial
 ·intro gh X hS;have HB := qhid hS.bel;have HK7 := qhid (hS.at_ 7 (by simp) (by rfl));clear hS;simp [Reg.finalTmps,Reg.dstAt,Reg.valOf,wlast3];obtain ⟨g,hg,hv⟩ := HK7.out;have HV := qhid hv;rw [hg];clear hg hv HK7
  go_wp2_with fail
  exact bodyPost_ret (v := .slice (some ⟨g,0,none⟩) n n) (by simp [results,Tryz.results61,go_sem]) rfl ⟨_,rfl,HV.out,HB.out⟩
theorem setL_at : ∀ (L : List W4) (i : Nat) (x : W4),L[i]? = some x -> (L.flatMap setV)[i * 4]? = some (.int .u64 x.a) /\ (L.flatMap setV)[i * 4 + 1]? = some (.int .u64 x.b) /\ (L.flatMap setV)[i * 4 + 2]? = some (.int .u64 x.c) /\ (L.flatMap setV)[i * 4 + 3]? = some (.int .u64 x.d)
 | [],_,_,h => by simp at h
 | y :: L,0,x,h => by
  obtain rfl : y = x := by simpa using h
  exact ⟨rfl,rfl,rfl,rfl⟩
 | y :: L,i + 1,x,h => by
  have := setL_at L i x (by simpa using h);rw [List.flatMap_cons,show (i + 1) * 4 = (setV y).length + i * 4 by simp [setV];omega];refine ⟨?_,?_,?_,?_⟩
  ·rw [List.getElem?_append_right (by omega),show (setV y).length + i * 4 - (setV y).length = i * 4 by omega];exact this.1
  ·rw [List.getElem?_append_right (by omega),show (setV y).length + i * 4 + 1 - (setV y).length = i * 4 + 1 by omega];exact this.2.1
  ·rw [List.getElem?_append_right (by omega),show (setV y).length + i * 4 + 2 - (setV y).length = i * 4 + 2 by omega];exact this.2.2.1
  ·rw [List.getElem?_append_right (by omega),show (setV y).length + i * 4 + 3 - (setV y).length = i * 4 + 3 by omega];exact this.2.2.2
def SetsAt (w : World) (v : Value) (L : List W4) : Prop := ∃ B,w.ownsRow B 29 4 v L.length (L.flatMap setV)
theorem SetsAt.up {w w' : World} {v : Value} {L : List W4} (h : SetsAt w v L) (hb : Below w.heap.size w w') : SetsAt w' v L := by
 obtain ⟨B,h⟩ := h;exact ⟨B,ownsKeep h (grown_below none hb) (fun g _ e => by cases e)⟩
theorem SetsAt.read {w : World} {v : Value} {L : List W4} (h : SetsAt w v L) {i : Nat} {x : W4} (hx : L[i]? = some x) : ∃ g cap,v = .slice (some ⟨g,0,none⟩) L.length cap /\ g < w.heap.size /\
  w.cell? ⟨g,i * 4,none⟩ = some (.int .u64 x.a) /\ w.cell? ⟨g,i * 4 + 1,none⟩ = some (.int .u64 x.b) /\ w.cell? ⟨g,i * 4 + 2,none⟩ = some (.int .u64 x.c) /\ w.cell? ⟨g,i * 4 + 3,none⟩ = some (.int .u64 x.d) := by
 obtain ⟨B,h⟩ := h;have hl : i < L.length := (List.getElem?_eq_some_iff.1 hx).1;obtain ⟨g,cap,hv,_,hgl⟩ := h.form (by omega);refine ⟨g,cap,hv,hgl,?_⟩;have ha : ∀ k,(⟨g,0,none⟩ : Addr).add k = ⟨g,k,none⟩ := fun k => by unfold Addr.add;split <;> simp_all
 have key := fun j u hj => h.cells (g := g) (by rw [hv];rfl) j u hj
 obtain ⟨h0,h1,h2,h3⟩ := setL_at L i x hx;have k0 := key _ _ h0;have k1 := key _ _ h1;have k2 := key _ _ h2;have k3 := key _ _ h3;rw [ha] at k0 k1 k2 k3;exact ⟨k0,k1,k2,k3⟩
theorem WgAt.sets {w : World} {wb : Nat} {c : Co} (h : WgAt w wb c) : ∃ (mf ml : Option Nat) (sv fv : Value),w.heap[wb]? = some (wgOb ((prtC c).places : Int) (prtC c).void mf ml sv fv) /\ SetsAt w sv ((poT c).map Prod.fst) := by
 obtain ⟨⟨mf,ml,sp,fp,sc,fc,fs,hme,_,_,⟨B,hs⟩,_⟩,h6⟩ := h;refine ⟨mf,ml,_,_,hme,B,?_⟩;rw [List.length_map,poT_len];exact hs
theorem wset_any (w : World) (wb : Nat) (c : Co) (h : WgAt w wb c) (p : Nat) (hp : p < (prtC c).places) :
  Calls Tryz.prog 110 #[.pointer (some ⟨wb,0,none⟩),.int .i64 (p : Int)] w fun e w' => e = .returned (.agg #[.int .u64 (poS c p).a,.int .u64 (poS c p).b,.int .u64 (poS c p).c,.int .u64 (poS c p).d]) /\ Below w.heap.size w w' := by
 have HTH := qhid (fun X (hX : Below w.heap.size w X) => there_any X wb c (h.up hX) p hp);obtain ⟨mf,ml,sv,fv,hme,hs⟩ := h.sets;obtain ⟨g,cap,rfl,hgl,k0,k1,k2,k3⟩ := hs.read (i := p) (x := poS c p) (by rw [List.getElem?_map,poT_at hp];rfl);have hle := h.le;rw [List.length_map,poT_len] at hme;obtain ⟨n,hn⟩ : ∃ n,n = (prtC c).places := ⟨_,rfl⟩;rw [<- hn] at hme hp hle;obtain ⟨x,hx⟩ : ∃ x,x = poS c p := ⟨_,rfl⟩;rw [<- hx] at k0 k1 k2 k3 ⊢;have hb1 := below1 w (.cells #[.int .u64 0,.int .u64 0,.int .u64 0,.int .u64 0] 29);have hb := heap_new w (.cells #[.int .u64 0,.int .u64 0,.int .u64 0,.int .u64 0] 29);obtain ⟨W1,hW1⟩ : ∃ X,X = w.alloc (.cells #[.int .u64 0,.int .u64 0,.int .u64 0,.int .u64 0] 29) := ⟨_,rfl⟩;rw [<- hW1] at hb hb1;have HTH1 := qhid (HTH.out W1 hb1);obtain ⟨_,_,_,_,g4,_⟩ := wg_cells (below_kept hb1 hme);have cell : ∀ {i : Nat} {v : Value},w.cell? ⟨g,i,none⟩ = some v -> W1.cell? ⟨g,i,none⟩ = some v := fun {i v} hc => (World.cell?_of_block (w := w) (a := ⟨g,i,none⟩) (hb1.block g hgl)).trans hc
 have k0 := cell k0;have k1 := cell k1;have k2 := cell k2;have k3 := cell k3;have HW1 := qhid hW1;have HB1 := qhid hb1;have HB := qhid hb;clear hme hs hn hx cell hb1 hb hW1 HTH h hgl
 go_enter Tryz.func110,Tryz.ntmps110
 go_wp2_with fail
 rw [show w.alloc (.cells #[.int .u64 0,.int .u64 0,.int .u64 0,.int .u64 0] 29) = W1 from HW1.out.symm];refine HTH1.out.mono ?_;rintro e w2 ⟨rfl,hw2⟩;subst hw2;have z0 := (jC HB.out 0).trans rfl;have z1 := (jC HB.out 1).trans rfl;have z2 := (jC HB.out 2).trans rfl;have z3 := (jC HB.out 3).trans rfl;have f0 := jU HB.out 0;have f1 := jU HB.out 1;have f2 := jU HB.out 2;have f3 := jU HB.out 3
 go_wp2_with fail
 exact bodyPost_ret (v := .agg #[.int .u64 x.a,.int .u64 x.b,.int .u64 x.c,.int .u64 x.d]) (by simp [results,Tryz.results110,go_sem,z0,z1,z2,z3]) rfl ⟨rfl,((((HB1.out.setCell (by simp) _).setCell (by simp) _).setCell (by simp) _).setCell (by simp) _)⟩
end
end
end Go.Proofs.YtnmalggmbeipaaaGreatDoor
namespace Go.Proofs.YtnmalggmbeipaaaGreatDoor
section
section
open Go Go.RowKit
attribute [local go_sem ↓] Go.wp_at_zero Go.wp_at_succ
attribute [local go_sem] eq4
theorem Tryz.infoArrow : (Tryz.prog.info? 292).map (fun i => (i.zero,i.size,i.bytes)) = some (some (.agg #[.int .i64 0,.int .i64 0]),2,16) := by kernel_rfl
def ArAt (w : World) (v : Value) (l : List (Nat × Int)) : Prop := ∃ B,w.ownsRow B 292 2 v l.length (l.flatMap arV)
theorem ArAt.up {w w' : World} {v : Value} {l : List (Nat × Int)} (h : ArAt w v l) (hb : Below w.heap.size w w') : ArAt w' v l := by
 obtain ⟨B,h⟩ := h;exact ⟨B,ownsKeep h (grown_below none hb) (fun g _ e => by cases e)⟩
theorem arV_at : ∀ (l : List (Nat × Int)) (i : Nat) (x : Nat × Int),l[i]? = some x -> (l.flatMap arV)[i * 2]? = some (.int .i64 (x.1 : Int)) /\ (l.flatMap arV)[i * 2 + 1]? = some (.int .i64 x.2)
 | [],_,_,h => by simp at h
 | y :: l,0,x,h => by
  obtain rfl : y = x := by simpa using h
  exact ⟨rfl,rfl⟩
 | y :: l,i + 1,x,h => by
  obtain ⟨h0,h1⟩ := arV_at l i x (by simpa using h);rw [show (i + 1) * 2 = i * 2 + 2 by omega];exact ⟨h0,h1⟩
theorem ArAt.read {w : World} {v : Value} {l : List (Nat × Int)} (h : ArAt w v l) {i : Nat} {x : Nat × Int} (hx : l[i]? = some x) : ∃ g cap,v = .slice (some ⟨g,0,none⟩) l.length cap /\ g < w.heap.size /\
  w.cell? ⟨g,i * 2,none⟩ = some (.int .i64 (x.1 : Int)) /\ w.cell? ⟨g,i * 2 + 1,none⟩ = some (.int .i64 x.2) := by
 obtain ⟨B,h⟩ := h;have hl : i < l.length := (List.getElem?_eq_some_iff.1 hx).1;obtain ⟨g,cap,hv,_,hgl⟩ := h.form (by omega);refine ⟨g,cap,hv,hgl,?_⟩;have ha : ∀ k,(⟨g,0,none⟩ : Addr).add k = ⟨g,k,none⟩ := fun k => by unfold Addr.add;split <;> simp_all
 have key := fun j u hj => h.cells (g := g) (by rw [hv];rfl) j u hj
 obtain ⟨h0,h1⟩ := arV_at l i x hx;have k0 := key _ _ h0;have k1 := key _ _ h1;rw [ha] at k0 k1;exact ⟨k0,k1⟩
def ArGrow (w : World) (l : List (Nat × Int)) (v : Value) (wr : World) : Prop := wr.ownsRow w.heap.size 292 2 v l.length (l.flatMap arV) /\ Below w.heap.size w wr
theorem ArGrow.start (w : World) : ArGrow w [] (.slice none 0 0) w := ⟨⟨rfl,.inl ⟨rfl,rfl⟩⟩,Below.refl _ _⟩
theorem ArGrow.add {w wr w2 : World} {o : Obj} {l : List (Nat × Int)} {x : Nat × Int} {v v' : Value} (h : ArGrow w l v wr)
  (ho : w2.ownsRow w.heap.size 292 2 v' (l.length + 1) (l.flatMap arV ++ arV x)) (hg : (wr.alloc o).grownBy w2 v.ownBlock) : ArGrow w (l ++ [x]) v' w2 := by
 unfold ArGrow;rw [List.length_append,List.flatMap_append,List.flatMap_singleton];exact ⟨ho,h.2.trans (belowApp h.1 hg h.2.size)⟩
theorem arrows_any (w : World) (g n cap : Nat) (f : Wts) (hn : n <= 100000) (hv : VecI w g n f) : Calls Tryz.prog 157 #[.slice (some ⟨g,0,none⟩) n cap] w fun e w' => ∃ v,e = .returned v /\ ArAt w' v (arL f n) /\ Below w.heap.size w w' := by
 obtain ⟨i0,hif,hy0,hy1,hy2⟩ := info_parts Tryz.infoArrow;have HV := qhid hv;clear hv
 go_enter Tryz.func157,Tryz.ntmps157
 go_wp2_with fail
 go_loopw [3,8] (fun v i wr => ∃ j : Nat,j <= n /\ i = .int .i64 (j : Int) /\ Hid (ArGrow w (arL f j) v wr)) (fun _ i _ => n - (intOf i).toNat)
 case atStart => exact ⟨0,Nat.zero_le _,rfl,qhid (ArGrow.start _)⟩
 case round =>
  obtain ⟨j,hj,rfl,HG⟩ := hrel
  by_cases hlt : j < n
  ·have hcell := (HV.out.up HG.out.2).cell hlt;have hal := arL_len f j;have hsz := HG.out.2.size
   by_cases hf : 0 < f j
   ·have HF : Hid (arL f (j + 1) = arL f j ++ [(j,f j)]) := qhid (by rw [arL,if_pos hf])
    go_wp2_with (at_builtin;go_must (refine wpList_append_own_at _ rfl (.tmp 15) (.tmp 19) 126 rfl w.heap.size 292 i0 (.agg #[.int .i64 0,.int .i64 0]) 2 16 Tryz.underlying126 hif hy0 hy1 hy2 rfl (by decide) u3 (arL f j).length ((arL f j).flatMap arV) rfl (ownsAlloc HG.out.1 _) ⟨_,0,none⟩ 1 1 (arV (j,f j)) rfl rfl (ccells_h (heap_new _ _)) (by simp [arV,Value.oneCell']) (by unfold maxLen;omega) (by omega) (by simp;omega) ?_;intro v4 w4 ho hg4 _ _;have HG4 : Hid (ArGrow w (arL f (j + 1)) v4 w4) := qhid (by rw [HF.out];exact HG.out.add ho hg4);clear ho hg4))
    go_roundw
    case rel => exact ⟨j + 1,by omega,by go_num,HG4⟩
    case measure => simp [intOf];omega
   ·have HF : Hid (arL f (j + 1) = arL f j) := qhid (by rw [arL,if_neg hf,List.append_nil])
    go_wp2_with fail
    go_roundw
    case rel => exact ⟨j + 1,by omega,by go_num,qhid (by rw [HF.out];exact HG.out)⟩
    case measure => simp [intOf];omega
  ·obtain rfl : j = n := by omega
   go_wp2_with fail
   go_ret
   exact ⟨_,rfl,⟨_,HG.out.1⟩,HG.out.2⟩
end
end
end Go.Proofs.YtnmalggmbeipaaaGreatDoor
namespace Go.Proofs.YtnmalggmbeipaaaGreatDoor
section
section
open Go Go.RowKit
attribute [local go_sem ↓] Go.wp_at_zero Go.wp_at_succ
attribute [local go_sem] eq4
abbrev auOb (wb : Nat) (sv fv nv : Value) : Obj := .cells #[.pointer (some ⟨wb,0,none⟩),sv,fv,nv] 129 (0,0)
theorem Tryz.infoArS : (Tryz.prog.info? 126).map (fun i => (i.zero,i.size,i.bytes)) = some (some (.slice none 0 0),1,24) := by kernel_rfl
theorem au_cells {w : World} {b wb : Nat} {sv fv nv : Value} (h : w.heap[b]? = some (auOb wb sv fv nv)) : w.cell? ⟨b,0,none⟩ = some (.pointer (some ⟨wb,0,none⟩)) /\ w.cell? ⟨b,1,none⟩ = some sv /\ w.cell? ⟨b,2,none⟩ = some fv /\ w.cell? ⟨b,3,none⟩ = some nv :=
 ⟨(jC h 0).trans rfl,(jC h 1).trans rfl,(jC h 2).trans rfl,(jC h 3).trans rfl⟩
structure AuAt (w : World) (ab : Nat) (c : Co) : Prop where
 ex : ∃ (wb : Nat) (sv fv nv : Value) (vs : List Value),w.heap[ab]? = some (auOb wb sv fv nv) /\ WgAt w wb c /\ SetsAt w sv ((List.range (prtC c).places).map (poS c)) /\ ArAt w fv (arL (prtC c).first (prtC c).places) /\ (∃ B,w.ownsRow B 126 1 nv (prtC c).places vs) /\ ∀ (p : Nat) (v : Value),vs[p]? = some v -> ArAt w v (poF c p)
theorem AuAt.up {w w' : World} {ab : Nat} {c : Co} (h : AuAt w ab c) (hb : Below w.heap.size w w') : AuAt w' ab c := by
 obtain ⟨wb,sv,fv,nv,vs,h1,h2,h3,h4,⟨B,h5⟩,h6⟩ := h;exact ⟨wb,sv,fv,nv,vs,below_kept hb h1,h2.up hb,h3.up hb,h4.up hb,⟨B,ownsBelow h5 hb⟩,fun p v e => (h6 p v e).up hb⟩
theorem au_ne : 292 ≠ 29 /\ 292 ≠ 126 /\ 29 ≠ 126 /\ 292 ≠ 129 /\ 29 ≠ 129 /\ 126 ≠ 129 := by decide
theorem row_app {wr Y Z X : World} {B B' sz sz' n n' ab i : Nat} {e e' : TypeId} {u v u' : Value} {xs xs' : List Value} {o : Array Value} (h : wr.ownsRow B' e' sz' v n' xs') (hr : wr.ownsRow B e sz u n xs) (hne : e' ≠ e) (hY : Below wr.heap.size wr Y) (hg : Y.grownBy Z u.ownBlock) (hme : wr.heap[ab]? = some (.cells o 129 (0,0))) (hnA : e' ≠ 129) (hX : X = Z.setCell ⟨ab,i,none⟩ u') : X.ownsRow B' e' sz' v n' xs' := by
 have h1 := ownsBelow h hY;have h2 := ownsKeep h1 hg (fun g e e2 => rows_off h1 (ownsBelow hr hY) hne g e e2);rw [hX];refine ownsKeep h2 (set_only Z ab i u') (fun g e e2 => ?_);obtain ⟨cs,hc⟩ := owns_cells h1 e;have hm := below_kept hY hme;rw [<- Option.some.inj e2,hm] at hc;injection hc with hc;injection hc with _ hc;exact hnA hc.symm
theorem below_row {w0 Y Z : World} {e : TypeId} {sz n : Nat} {u : Value} {xs : List Value} (h : Below w0.heap.size w0 Y) (hr : Y.ownsRow w0.heap.size e sz u n xs) (hg : Y.grownBy Z u.ownBlock) : Below w0.heap.size w0 Z :=
 ⟨hg.os.trans h.os,hg.tape.trans h.tape,hg.output.trans h.output,Nat.le_trans h.size hg.size,fun k hk => (hg.block k (Nat.lt_of_lt_of_le hk h.size) (fun e => by have := (ownsLt hr e.symm).1;omega)).trans (h.block k hk)⟩
structure NwAt (w0 : World) (ab wb : Nat) (c : Co) (fv : Value) (i j : Nat) (sv nv : Value) (vs : List Value) (X : World) : Prop where
 bel : Below w0.heap.size w0 X
 me : X.heap[ab]? = some (auOb wb sv fv nv)
 fr : ArAt X fv (arL (prtC c).first (prtC c).places)
 srow : X.ownsRow w0.heap.size 29 4 sv i (((List.range i).map (poS c)).flatMap setV)
 nrow : X.ownsRow w0.heap.size 126 1 nv j vs
 ar : ∀ (p : Nat) (v : Value),vs[p]? = some v -> ArAt X v (poF c p)
section
variable {w0 wr Y Z X : World} {ab wb i j : Nat} {c : Co} {fv sv nv : Value} {vs : List Value}
theorem NwAt.off1 (h : NwAt w0 ab wb c fv i j sv nv vs wr) : sv.ownBlock ≠ some ab := fun e => by
 obtain ⟨cs,hc⟩ := owns_cells h.srow e;rw [h.me] at hc;injection hc with hc;injection hc with _ hc;exact au_ne.2.2.2.2.1 hc.symm
theorem NwAt.off3 (h : NwAt w0 ab wb c fv i j sv nv vs wr) : nv.ownBlock ≠ some ab := fun e => by
 obtain ⟨cs,hc⟩ := owns_cells h.nrow e;rw [h.me] at hc;injection hc with hc;injection hc with _ hc;exact au_ne.2.2.2.2.2 hc.symm
theorem ArAt.app {v u u' : Value} {l : List (Nat × Int)} {B sz n k : Nat} {e : TypeId} {xs : List Value} (h : ArAt wr v l) (hr : wr.ownsRow B e sz u n xs) (hne : 292 ≠ e) (hY : Below wr.heap.size wr Y) (hg : Y.grownBy Z u.ownBlock) (hme : wr.heap[ab]? = some (auOb wb sv fv nv)) (hX : X = Z.setCell ⟨ab,k,none⟩ u') : ArAt X v l := by
 obtain ⟨B',h⟩ := h;exact ⟨B',row_app h hr hne hY hg hme au_ne.2.2.2.1 hX⟩
theorem NwAt.setS {sv' : Value} (h : NwAt w0 ab wb c fv i j sv nv vs wr) (hab : w0.heap.size <= ab) (hY : Below wr.heap.size wr Y) (hg : Y.grownBy Z sv.ownBlock) (ho : Z.ownsRow w0.heap.size 29 4 sv' (i + 1) (((List.range i).map (poS c)).flatMap setV ++ setV (poS c i))) (hX : X = Z.setCell ⟨ab,1,none⟩ sv') : NwAt w0 ab wb c fv (i + 1) j sv' nv vs X := by
 have hm := wg_grew h.me hY hg h.off1;have hY0 := h.bel.trans (hY.mono h.bel.size);refine ⟨?_,?_,h.fr.app h.srow au_ne.1 hY hg h.me hX,?_,row_app h.nrow h.srow (fun e => au_ne.2.2.1 e.symm) hY hg h.me au_ne.2.2.2.2.2 hX,fun p v e => (h.ar p v e).app h.srow au_ne.1 hY hg h.me hX⟩
 ·rw [hX];exact below_grown (below_row hY0 (ownsBelow h.srow hY) hg) (set_only Z ab 1 sv') hab
 ·rw [hX];exact (Joins.block_setCell (i := 1) hm sv').trans rfl
 ·rw [hX,List.range_succ,List.map_append,List.flatMap_append];refine ownsKeep (by simpa using ho) (set_only Z ab 1 sv') (fun g e e2 => ?_);obtain ⟨cs,hc⟩ := owns_cells ho e;rw [<- Option.some.inj e2,hm] at hc;injection hc with hc;injection hc with _ hc;exact au_ne.2.2.2.2.1 hc.symm
theorem NwAt.setN {nv' va : Value} (h : NwAt w0 ab wb c fv i j sv nv vs wr) (hab : w0.heap.size <= ab) (hY : Below wr.heap.size wr Y) (hg : Y.grownBy Z nv.ownBlock) (hva : ArAt Y va (poF c j)) (ho : Z.ownsRow w0.heap.size 126 1 nv' (j + 1) (vs ++ [va])) (hX : X = Z.setCell ⟨ab,3,none⟩ nv') : NwAt w0 ab wb c fv i (j + 1) sv nv' (vs ++ [va]) X := by
 have hm := wg_grew h.me hY hg h.off3;have hY0 := h.bel.trans (hY.mono h.bel.size);refine ⟨?_,?_,h.fr.app h.nrow au_ne.2.1 hY hg h.me hX,row_app h.srow h.nrow au_ne.2.2.1 hY hg h.me au_ne.2.2.2.2.1 hX,?_,fun p v e => ?_⟩
 ·rw [hX];exact below_grown (below_row hY0 (ownsBelow h.nrow hY) hg) (set_only Z ab 3 nv') hab
 ·rw [hX];exact (Joins.block_setCell (i := 3) hm nv').trans rfl
 ·rw [hX];refine ownsKeep ho (set_only Z ab 3 nv') (fun g e e2 => ?_);obtain ⟨cs,hc⟩ := owns_cells ho e;rw [<- Option.some.inj e2,hm] at hc;injection hc with hc;injection hc with _ hc;exact au_ne.2.2.2.2.2 hc.symm
 ·have hl : vs.length = j := by have := h.nrow.1;omega
  by_cases hp : p < j
  ·rw [List.getElem?_append_left (by omega)] at e;exact (h.ar p v e).app h.nrow au_ne.2.1 hY hg h.me hX
  ·rw [List.getElem?_append_right (by omega)] at e
   have hpj : p = j := by
    have := (List.getElem?_eq_some_iff.1 e).1;simp at this;omega
   subst hpj;obtain rfl : va = v := by rw [hl,Nat.sub_self] at e;simpa using e
   exact hva.app (ownsBelow h.nrow hY) au_ne.2.1 (Below.refl _ _) hg (below_kept hY h.me) hX
theorem NwAt.made {n : Nat} (h : NwAt w0 ab wb c fv n n sv nv vs wr) (hn : n = (prtC c).places) (hw : WgAt w0 wb c) : AuAt wr ab c := by
 subst hn;refine ⟨wb,sv,fv,nv,vs,h.me,hw.up h.bel,⟨w0.heap.size,?_⟩,h.fr,⟨_,h.nrow⟩,h.ar⟩;have := h.srow;simpa using this
end
theorem boxS_up {s : W4} : Reg.UpP (fun (_ : Nat) (b : Value) X => ∃ g,b = .slice (some ⟨g,0,none⟩) 1 1 /\ X.heap[g]? = some (.cells (setV s : List Value).toArray 29 (0,0))) := fun _ _ _ _ hb ⟨g,e,h⟩ => ⟨g,e,Reg.heap_kept_up h hb⟩
def nxP (c : Co) (n k : Nat) (i : Nat) (b : Value) (X : World) : Prop := (i = 10 -> VecS n (poN c k) b X) /\ (i = 11 -> ArAt X b (poF c k)) /\
 (i = 12 -> ∃ g v,b = .slice (some ⟨g,0,none⟩) 1 1 /\ X.heap[g]? = some (.cells ([v] : List Value).toArray 126 (0,0)) /\ ArAt X v (poF c k))
theorem nxP_up {c : Co} {n k : Nat} : Reg.UpP (nxP c n k) := fun i b X Y hb h => ⟨fun e => vecS_up 0 b X Y hb (h.1 e),fun e => (h.2.1 e).up hb,fun e => by
 obtain ⟨g,v,h1,h2,h3⟩ := h.2.2 e
 exact ⟨g,v,h1,Reg.heap_kept_up h2 hb,h3.up hb⟩⟩
def AuNewTo (w w' : World) (e : Ending) (c : Co) : Prop :=
 Below w.heap.size w w' /\ (((prtC c).places <= 600 /\ ∃ ab,e = .returned (.tuple #[.pointer (some ⟨ab,0,none⟩),.int .i64 0]) /\ AuAt w' ab c) \/ (600 < (prtC c).places /\ e = .returned (.tuple #[.pointer none,.int .i64 3])))
def nw9 (ab wb k : Nat) (sv : Value) (s : W4) (gh : Nat -> Value) : Nat -> Value
 | 0 => .pointer (some ⟨ab,0,none⟩)
 | 1 => .pointer (some ⟨ab,0,none⟩)
 | 2 => .pointer (some ⟨ab,0,none⟩)
 | 3 => .pointer (some ⟨ab,1,none⟩)
 | 4 => sv
 | 5 => .pointer (some ⟨ab,0,none⟩)
 | 6 => .pointer (some ⟨ab,0,none⟩)
 | 7 => .pointer (some ⟨ab,0,none⟩)
 | 8 => .pointer (some ⟨wb,0,none⟩)
 | 9 => .int .i64 (k : Int)
 | 10 => .agg #[.int .u64 s.a,.int .u64 s.b,.int .u64 s.c,.int .u64 s.d]
 | 11 => gh 11
 | 12 => gh 12
 | 13 => .pointer (some ⟨ab,0,none⟩)
 | 14 => .pointer (some ⟨ab,1,none⟩)
 | 15 => undef
 | _ => undef
theorem nw9_11 {ab wb k : Nat} {sv : Value} {s : W4} {gh : Nat -> Value} {gx} {j : Nat} (h11 : j ≠ 11) : nw9 ab wb k sv s (Reg.updP gh 11 gx) j = nw9 ab wb k sv s gh j := by
 unfold nw9
 split <;> first | rfl | exact absurd rfl ‹_› | (rw [Reg.updP_other _ _ (by decide)])
theorem nw9_12 {ab wb k : Nat} {sv : Value} {s : W4} {gh : Nat -> Value} {gx} {j : Nat} (h12 : j ≠ 12) : nw9 ab wb k sv s (Reg.updP gh 12 gx) j = nw9 ab wb k sv s gh j := by
 unfold nw9
 split <;> first | rfl | exact absurd rfl ‹_› | (rw [Reg.updP_other _ _ (by decide)])
def nw10 (ab wb k : Nat) (nv : Value) (gh : Nat -> Value) : Nat -> Value
 | 0 => .pointer (some ⟨ab,0,none⟩)
 | 1 => .pointer (some ⟨ab,0,none⟩)
 | 2 => .pointer (some ⟨ab,0,none⟩)
 | 3 => .pointer (some ⟨ab,3,none⟩)
 | 4 => nv
 | 5 => .pointer (some ⟨ab,0,none⟩)
 | 6 => .pointer (some ⟨ab,0,none⟩)
 | 7 => .pointer (some ⟨ab,0,none⟩)
 | 8 => .pointer (some ⟨wb,0,none⟩)
 | 9 => .int .i64 (k : Int)
 | 10 => gh 10
 | 11 => gh 11
 | 12 => gh 12
 | 13 => gh 13
 | 14 => .pointer (some ⟨ab,0,none⟩)
 | 15 => .pointer (some ⟨ab,3,none⟩)
 | 16 => undef
 | _ => undef
theorem nw10_10 {ab wb k : Nat} {nv : Value} {gh : Nat -> Value} {gx} {j : Nat} (h10 : j ≠ 10) : nw10 ab wb k nv (Reg.updP gh 10 gx) j = nw10 ab wb k nv gh j := by
 unfold nw10
 split <;> first | rfl | exact absurd rfl ‹_› | (rw [Reg.updP_other _ _ (by decide)])
theorem nw10_11 {ab wb k : Nat} {nv : Value} {gh : Nat -> Value} {gx} {j : Nat} (h11 : j ≠ 11) : nw10 ab wb k nv (Reg.updP gh 11 gx) j = nw10 ab wb k nv gh j := by
 unfold nw10
 split <;> first | rfl | exact absurd rfl ‹_› | (rw [Reg.updP_other _ _ (by decide)])
theorem nw10_12 {ab wb k : Nat} {nv : Value} {gh : Nat -> Value} {gx} {j : Nat} (h12 : j ≠ 12) : nw10 ab wb k nv (Reg.updP gh 12 gx) j = nw10 ab wb k nv gh j := by
 unfold nw10
 split <;> first | rfl | exact absurd rfl ‹_› | (rw [Reg.updP_other _ _ (by decide)])
theorem nw10_13 {ab wb k : Nat} {nv : Value} {gh : Nat -> Value} {gx} {j : Nat} (h13 : j ≠ 13) : nw10 ab wb k nv (Reg.updP gh 13 gx) j = nw10 ab wb k nv gh j := by
 unfold nw10
 split <;> first | rfl | exact absurd rfl ‹_› | (rw [Reg.updP_other _ _ (by decide)])
theorem aunew_any (w : World) (c : Co) (v : Value) (hgc : GC c) (hc : CoAt w c v) :
  Calls Tryz.prog 106 #[v] w fun e w' => AuNewTo w w' e c := by
 have HN := qhid (new_po hgc v w hc);obtain ⟨q,rfl⟩ := hc.ptr;clear hc hgc
 go_enter Tryz.func106,Tryz.ntmps106
 go_wp2_with fail
 refine HN.out.mono ?_;rintro e w1 ⟨hb,⟨h6,wb,rfl,hwg⟩ | ⟨h6,rfl⟩⟩
 ·have HWG1 := qhid hwg;have HB := qhid hb;obtain ⟨n,hn⟩ : ∃ n,n = (prtC c).places := ⟨_,rfl⟩;rw [<- hn] at h6;obtain ⟨W2,hW2⟩ : ∃ X,X = w1.alloc (auOb wb (.slice none 0 0) (.slice none 0 0) (.slice none 0 0)) := ⟨_,rfl⟩;obtain ⟨ab,hab⟩ : ∃ a,a = w1.heap.size := ⟨_,rfl⟩;have hb2 : Below w1.heap.size w1 W2 := by rw [hW2];exact below1 _ _
  have HB2 := qhid hb2;have HME2 : Hid (W2.heap[ab]? = some (auOb wb (.slice none 0 0) (.slice none 0 0) (.slice none 0 0))) := qhid (by rw [hW2,hab];exact heap_new _ _);have HFI := qhid (wfirst_any W2 wb c (hwg.up hb2));rw [<- hn] at HFI;have HNP := qhid hn;have HAB : Hid (w1.heap.size <= ab) := qhid (by omega);have HW2 := qhid hW2;have HABE := qhid hab;have HN6 := qhid h6;clear hb hwg hb2 hW2 HN hab hn h6
  go_wp2_with fail
  rw [show w1.alloc (auOb wb (.slice none 0 0) (.slice none 0 0) (.slice none 0 0)) = W2 from HW2.out.symm,<- HABE.out];refine HFI.out.mono ?_;rintro e w3 ⟨g3,rfl,hv3,hb3⟩;have HAR := qhid (arrows_any w3 g3 n n (prtC c).first (by have := HN6.out;omega) hv3);have HB3 := qhid hb3;clear hv3 hb3 HFI
  go_wp2_with fail
  refine HAR.out.mono ?_;rintro e w4 ⟨fv,rfl,har,hb4⟩;obtain ⟨fp,fc,rfl⟩ := owns_slice har.choose_spec;have hb24 := HB3.out.trans (hb4.mono HB3.out.size);have hme4 := below_kept hb24 HME2.out;obtain ⟨c0,c1,c2,c3⟩ := au_cells hme4;have hfz := jU hme4 2;obtain ⟨fl,hfl⟩ : ∃ m,m = (arL (prtC c).first n).length := ⟨_,rfl⟩;rw [<- hfl] at har ⊢;obtain ⟨W5,hW5⟩ : ∃ X,X = w4.setCell ⟨ab,2,none⟩ (.slice fp fl fc) := ⟨_,rfl⟩
  have hN0 : NwAt w1 ab wb c (.slice fp fl fc) 0 0 (.slice none 0 0) (.slice none 0 0) [] W5 := by
   have hbb := HB2.out.trans (hb24.mono HB2.out.size);refine ⟨?_,?_,?_,World.ownsRow_nil _ _ _ _,World.ownsRow_nil _ _ _ _,fun p v e => by simp at e⟩
   ·rw [hW5];exact below_grown hbb (set_only w4 ab 2 _) HAB.out
   ·rw [hW5];exact (Joins.block_setCell (i := 2) hme4 _).trans rfl
   ·rw [<- HNP.out];exact ArAt.app har (World.ownsRow_nil w4 0 29 4) au_ne.1 (Below.refl _ _) (grown_below _ (Below.refl _ _)) hme4 hW5
  have HN0 := qhid hN0;have HW5 := qhid hW5;have HPL := qhid (places_any W5 wb c (HWG1.out.up hN0.bel));rw [<- HNP.out] at HPL;clear har hb4 hb24 hme4 hW5 hN0 HAR HME2 HB3 hfl
  go_wp2_with fail
  rw [show w4.setCell ⟨ab,2,none⟩ (.slice fp fl fc) = W5 from HW5.out.symm];refine HPL.out.mono ?_;rintro e w6 ⟨rfl,hw6⟩;obtain rfl := hw6;clear HPL HW5 c0 c1 c2 c3 hfz
  go_wp2_with fail
  go_loopw [33] (fun i wr => ∃ (k : Nat) (sv nv : Value) (vs : List Value),k <= n /\ i = .int .i64 (k : Int) /\ Hid (NwAt w1 ab wb c (.slice fp fl fc) k k sv nv vs wr)) (fun i _ => n - (intOf i).toNat)
  case atStart => exact ⟨0,_,_,_,Nat.zero_le _,rfl,HN0⟩
  case round =>
   clear HN0;obtain ⟨k,sv,nv,vs,hkn,rfl,HNW⟩ := hrel
   by_cases hlt : k < n
   ·obtain ⟨s,hs⟩ : ∃ s,s = poS c k := ⟨_,rfl⟩;have HSS := qhid hs;have HKN : Hid (k < (prtC c).places) := qhid (by rw [<- HNP.out];exact hlt);have HK6 : Hid (k < 600) := qhid (by have := HN6.out;omega);have HME := qhid HNW.out.me;have HWG := qhid (HWG1.out.up HNW.out.bel);have HNO1 := qhid HNW.out.off1;have HSZ := qhid HNW.out.bel.size;clear hs
    go_upto_region 9 with fail
    refine Reg.wp_region_H (nw9 ab wb k sv s) (Reg.AppR 12 15 (Reg.MkP wr [11,12] (fun _ b X => ∃ g,b = .slice (some ⟨g,0,none⟩) 1 1 /\ X.heap[g]? = some (.cells (setV s : List Value).toArray 29 (0,0)))) (fun gh X => ∃ Y,Below wr.heap.size wr Y /\ Y.grownBy X sv.ownBlock /\ X.ownsRow w1.heap.size 29 4 (gh 12) (k + 1) (((List.range k).map (poS c)).flatMap setV ++ setV s)) (fun gh X => ∃ Z,(∃ Y,Below wr.heap.size wr Y /\ Y.grownBy Z sv.ownBlock /\ Z.ownsRow w1.heap.size 29 4 (gh 12) (k + 1) (((List.range k).map (poS c)).flatMap setV ++ setV s)) /\ X = Z.setCell ⟨ab,1,none⟩ (gh 12))) (fun _ => undef) [0,1,2,3,4,5,6,7,8,9,10,11,12,13,14,15] (by rfl) (by kernel_rfl) (by kernel_rfl) ?_ ?_ ?_
    ·exact Reg.AppR.start (Reg.MkP.start _ _)
    ·refine ⟨fun gh listed A X hI hcl hin hun hall => ⟨Reg.wanted_none rfl,?_⟩,?_⟩
     ·have e6 := hI.evo (d := 6) (by kernel_rfl) rfl;have HS := hI.st;clear hI;have HS2 := qhid HS;clear HS;unfold Reg.Yields
      go_simp
      first | exact ⟨gh,fun _ _ => rfl,rfl,HS2.out.same (by decide) (by decide) fun h => h.up (by simp) boxS_up (Below.refl _ _)⟩ | exact ⟨rfl,gh,fun _ _ => rfl,rfl,HS2.out.same (by decide) (by decide) fun h => h.up (by simp) boxS_up (Below.refl _ _)⟩
     refine ⟨fun gh listed A X hI hcl hin hun hall => ⟨Reg.wanted_none rfl,?_⟩,?_⟩
     ·have e6 := hI.evo (d := 6) (by kernel_rfl) rfl;have HS := hI.st;have hR := HS.ahead (Reg.un_of_reach hcl (n := 12) (i := 1) (by kernel_rfl) (by simpa using hun));have hX := hR.bel;clear hI;have HS2 := qhid HS;clear HS hR hX;unfold Reg.Yields
      go_simp
      first | exact ⟨gh,fun _ _ => rfl,rfl,HS2.out.same (by decide) (by decide) fun h => h.up (by simp) boxS_up (Below.refl _ _)⟩ | exact ⟨rfl,gh,fun _ _ => rfl,rfl,HS2.out.same (by decide) (by decide) fun h => h.up (by simp) boxS_up (Below.refl _ _)⟩
     refine ⟨fun gh listed A X hI hcl hin hun hall => ⟨Reg.wanted_none rfl,?_⟩,?_⟩
     ·have e37 : A.tmps[37]? = some (.pointer (some ⟨ab,0,none⟩)) := hI.ev (i := 1) (d := 37) (by rfl) (hall ⟨1,.data⟩ (by simp) rfl);have HS := hI.st;have hR := HS.ahead (Reg.un_of_reach hcl (n := 12) (i := 2) (by kernel_rfl) (by simpa using hun));have hX := hR.bel;clear hI;have HS2 := qhid HS;clear HS hR hX;unfold Reg.Yields
      go_simp
      first | exact ⟨gh,fun _ _ => rfl,rfl,HS2.out.same (by decide) (by decide) fun h => h.up (by simp) boxS_up (Below.refl _ _)⟩ | exact ⟨rfl,gh,fun _ _ => rfl,rfl,HS2.out.same (by decide) (by decide) fun h => h.up (by simp) boxS_up (Below.refl _ _)⟩
     refine ⟨fun gh listed A X hI hcl hin hun hall => ⟨Reg.wanted_none rfl,?_⟩,?_⟩
     ·have e38 : A.tmps[38]? = some (.pointer (some ⟨ab,0,none⟩)) := hI.ev (i := 2) (d := 38) (by rfl) (hall ⟨2,.data⟩ (by simp) rfl);have HS := hI.st;have hR := HS.ahead (Reg.un_of_reach hcl (n := 12) (i := 3) (by kernel_rfl) (by simpa using hun));have hX := hR.bel;clear hI;have HS2 := qhid HS;clear HS hR hX;unfold Reg.Yields
      go_simp
      first | exact ⟨gh,fun _ _ => rfl,rfl,HS2.out.same (by decide) (by decide) fun h => h.up (by simp) boxS_up (Below.refl _ _)⟩ | exact ⟨rfl,gh,fun _ _ => rfl,rfl,HS2.out.same (by decide) (by decide) fun h => h.up (by simp) boxS_up (Below.refl _ _)⟩
     refine ⟨fun gh listed A X hI hcl hin hun hall => ⟨Reg.wanted_none rfl,?_⟩,?_⟩
     ·have e39 : A.tmps[39]? = some (.pointer (some ⟨ab,1,none⟩)) := hI.ev (i := 3) (d := 39) (by rfl) (hall ⟨3,.data⟩ (by simp) rfl);have HS := hI.st;have hR := HS.ahead (Reg.un_of_reach hcl (n := 12) (i := 4) (by kernel_rfl) (by simpa using hun));have hX := hR.bel;obtain ⟨c0,c1,c2,c3⟩ := au_cells (Reg.heap_kept_up HME.out hX);clear hI;have HS2 := qhid HS;clear HS hR hX;unfold Reg.Yields
      go_simp
      first | exact ⟨gh,fun _ _ => rfl,rfl,HS2.out.same (by decide) (by decide) fun h => h.up (by simp) boxS_up (Below.refl _ _)⟩ | exact ⟨rfl,gh,fun _ _ => rfl,rfl,HS2.out.same (by decide) (by decide) fun h => h.up (by simp) boxS_up (Below.refl _ _)⟩
     refine ⟨fun gh listed A X hI hcl hin hun hall => ⟨Reg.wanted_none rfl,?_⟩,?_⟩
     ·have e6 := hI.evo (d := 6) (by kernel_rfl) rfl;have HS := hI.st;have hR := HS.ahead (Reg.un_of_reach hcl (n := 12) (i := 5) (by kernel_rfl) (by simpa using hun));have hX := hR.bel;clear hI;have HS2 := qhid HS;clear HS hR hX;unfold Reg.Yields
      go_simp
      first | exact ⟨gh,fun _ _ => rfl,rfl,HS2.out.same (by decide) (by decide) fun h => h.up (by simp) boxS_up (Below.refl _ _)⟩ | exact ⟨rfl,gh,fun _ _ => rfl,rfl,HS2.out.same (by decide) (by decide) fun h => h.up (by simp) boxS_up (Below.refl _ _)⟩
     refine ⟨fun gh listed A X hI hcl hin hun hall => ⟨Reg.wanted_none rfl,?_⟩,?_⟩
     ·have e41 : A.tmps[41]? = some (.pointer (some ⟨ab,0,none⟩)) := hI.ev (i := 5) (d := 41) (by rfl) (hall ⟨5,.data⟩ (by simp) rfl);have HS := hI.st;have hR := HS.ahead (Reg.un_of_reach hcl (n := 12) (i := 6) (by kernel_rfl) (by simpa using hun));have hX := hR.bel;clear hI;have HS2 := qhid HS;clear HS hR hX;unfold Reg.Yields
      go_simp
      first | exact ⟨gh,fun _ _ => rfl,rfl,HS2.out.same (by decide) (by decide) fun h => h.up (by simp) boxS_up (Below.refl _ _)⟩ | exact ⟨rfl,gh,fun _ _ => rfl,rfl,HS2.out.same (by decide) (by decide) fun h => h.up (by simp) boxS_up (Below.refl _ _)⟩
     refine ⟨fun gh listed A X hI hcl hin hun hall => ⟨Reg.wanted_none rfl,?_⟩,?_⟩
     ·have e42 : A.tmps[42]? = some (.pointer (some ⟨ab,0,none⟩)) := hI.ev (i := 6) (d := 42) (by rfl) (hall ⟨6,.data⟩ (by simp) rfl);have HS := hI.st;have hR := HS.ahead (Reg.un_of_reach hcl (n := 12) (i := 7) (by kernel_rfl) (by simpa using hun));have hX := hR.bel;clear hI;have HS2 := qhid HS;clear HS hR hX;unfold Reg.Yields
      go_simp
      first | exact ⟨gh,fun _ _ => rfl,rfl,HS2.out.same (by decide) (by decide) fun h => h.up (by simp) boxS_up (Below.refl _ _)⟩ | exact ⟨rfl,gh,fun _ _ => rfl,rfl,HS2.out.same (by decide) (by decide) fun h => h.up (by simp) boxS_up (Below.refl _ _)⟩
     refine ⟨fun gh listed A X hI hcl hin hun hall => ⟨Reg.wanted_none rfl,?_⟩,?_⟩
     ·have e43 : A.tmps[43]? = some (.pointer (some ⟨ab,0,none⟩)) := hI.ev (i := 7) (d := 43) (by rfl) (hall ⟨7,.data⟩ (by simp) rfl);have HS := hI.st;have hR := HS.ahead (Reg.un_of_reach hcl (n := 12) (i := 8) (by kernel_rfl) (by simpa using hun));have hX := hR.bel;obtain ⟨c0,c1,c2,c3⟩ := au_cells (Reg.heap_kept_up HME.out hX);clear hI;have HS2 := qhid HS;clear HS hR hX;unfold Reg.Yields
      go_simp
      first | exact ⟨gh,fun _ _ => rfl,rfl,HS2.out.same (by decide) (by decide) fun h => h.up (by simp) boxS_up (Below.refl _ _)⟩ | exact ⟨rfl,gh,fun _ _ => rfl,rfl,HS2.out.same (by decide) (by decide) fun h => h.up (by simp) boxS_up (Below.refl _ _)⟩
     refine ⟨fun gh listed A X hI hcl hin hun hall => ⟨Reg.wanted_none rfl,?_⟩,?_⟩
     ·have e7 := hI.evo (d := 7) (by kernel_rfl) rfl;have HS := hI.st;have hR := HS.ahead (Reg.un_of_reach hcl (n := 12) (i := 9) (by kernel_rfl) (by simpa using hun));have hX := hR.bel;clear hI;have HS2 := qhid HS;clear HS hR hX;unfold Reg.Yields
      go_simp
      first | exact ⟨gh,fun _ _ => rfl,rfl,HS2.out.same (by decide) (by decide) fun h => h.up (by simp) boxS_up (Below.refl _ _)⟩ | exact ⟨rfl,gh,fun _ _ => rfl,rfl,HS2.out.same (by decide) (by decide) fun h => h.up (by simp) boxS_up (Below.refl _ _)⟩
     refine ⟨fun gh listed A X hI hcl hin hun hall => ⟨Reg.wanted_none rfl,?_⟩,?_⟩
     ·have e44 : A.tmps[44]? = some (.pointer (some ⟨wb,0,none⟩)) := hI.ev (i := 8) (d := 44) (by rfl) (hall ⟨8,.data⟩ (by simp) rfl);have e45 : A.tmps[45]? = some (.int .i64 (k : Int)) := hI.ev (i := 9) (d := 45) (by rfl) (hall ⟨9,.data⟩ (by simp) rfl);have HS := hI.st;have hR := HS.ahead (Reg.un_of_reach hcl (n := 12) (i := 10) (by kernel_rfl) (by simpa using hun));have hX := hR.bel;have HM := qhid (wset_any X wb c (HWG.out.up hX) k HKN.out);rw [<- HSS.out] at HM;clear hI;have HS2 := qhid HS;clear HS hR hX;unfold Reg.Yields
      go_simp
      refine HM.out.mono ?_;rintro e w2 ⟨he,hb⟩;exact ⟨_,he,gh,fun _ _ => rfl,rfl,HS2.out.step (by decide) (by decide) (Reg.un_of_reach hcl (n := 12) (i := 10) (by kernel_rfl) (by simpa using hun)) (Reg.un_of_reach hcl (n := 15) (i := 10) (by kernel_rfl) (by simpa using hun)) fun h => h.up (by simp) boxS_up (hb)⟩
     refine ⟨fun gh listed A X hI hcl hin hun hall => ⟨Reg.wanted_none rfl,?_⟩,?_⟩
     ·have e46 : A.tmps[46]? = some (.agg #[.int .u64 s.a,.int .u64 s.b,.int .u64 s.c,.int .u64 s.d]) := hI.ev (i := 10) (d := 46) (by rfl) (hall ⟨10,.data⟩ (by simp) rfl);have HS := hI.st;have hR := HS.ahead (Reg.un_of_reach hcl (n := 12) (i := 11) (by kernel_rfl) (by simpa using hun));have hX := hR.bel;clear hI;have HS2 := qhid HS;clear HS hR hX;unfold Reg.Yields
      go_simp
      exact ⟨Reg.updP gh 11 (.slice (some ⟨X.heap.size,0,none⟩) 1 1),fun j hj => nw9_11 (j := j) (fun e => by rw [e] at hj;rw [hj] at hun;cases hun),rfl,HS2.out.step (by decide) (by decide) (Reg.un_of_reach hcl (n := 12) (i := 11) (by kernel_rfl) (by simpa using hun)) (Reg.un_of_reach hcl (n := 15) (i := 11) (by kernel_rfl) (by simpa using hun)) fun h => h.new _ boxS_up (below1 _ _) (⟨_,rfl,heap_new _ _⟩)⟩
     refine ⟨fun gh listed A X hI hcl hin hun hall => ⟨Reg.wanted_none rfl,?_⟩,?_⟩
     ·have e40 : A.tmps[40]? = some (sv) := hI.ev (i := 4) (d := 40) (by rfl) (hall ⟨4,.data⟩ (by simp) rfl);have e47 : A.tmps[47]? = some (gh 11) := hI.ev (i := 11) (d := 47) (by rfl) (hall ⟨11,.data⟩ (by simp) rfl);have HS := hI.st;have hR := HS.ahead (by simpa using hun);have hX := hR.bel;obtain ⟨gs,hgs,hsl⟩ := hR.at_ 11 (by simp) (hall ⟨11,.data⟩ (by simp) rfl);rw [hgs] at e47;obtain ⟨i0,hif,hy0,hy1,hy2⟩ := info_parts Tryz.infoSet;have hrow := ownsBelow HNW.out.srow hX;have hsz := hX.size;have hsz1 := HSZ.out;have hk6 := HK6.out;have HX := qhid hX;clear hgs;clear hI;have HS2 := qhid HS;clear HS hR hX;refine Reg.yields_append_own (.tmp 40) (.tmp 47) 35 rfl w1.heap.size 29 i0 (.agg #[.int .u64 0,.int .u64 0,.int .u64 0,.int .u64 0]) 4 32 Tryz.underlying35 hif hy0 hy1 hy2 rfl (by decide) sv k (((List.range k).map (poS c)).flatMap setV) (by simp [Act.eval,e40]) hrow ⟨gs,0,none⟩ 1 1 (setV s) (by simp [Act.eval,e47]) rfl (ccells_h hsl) (by intro u hu;simp only [setV,List.mem_cons,List.not_mem_nil,or_false] at hu;rcases hu with rfl | rfl | rfl | rfl <;> rfl) (by unfold maxLen;omega) (by omega) (by omega) ?_;intro v' w' ho hg _;exact ⟨Reg.updP gh 12 v',fun j hj => nw9_12 (j := j) (fun e => by rw [e] at hj;rw [hj] at hun;cases hun),rfl,HS2.out.last (by decide) (by simpa using hin) (Reg.un_of_reach hcl (n := 15) (i := 12) (by kernel_rfl) (by simpa using hun)) ⟨X,HX.out,hg,ho⟩⟩
     refine ⟨fun gh listed A X hI hcl hin hun hall => ⟨Reg.wanted_none rfl,?_⟩,?_⟩
     ·have e36 : A.tmps[36]? = some (.pointer (some ⟨ab,0,none⟩)) := hI.ev (i := 0) (d := 36) (by rfl) (hall ⟨0,.data⟩ (by simp) rfl);have HS := hI.st;clear hI;have HS2 := qhid HS;clear HS;unfold Reg.Yields
      go_simp
      first | exact ⟨gh,fun _ _ => rfl,rfl,HS2.out.same (by decide) (by decide) fun h => h.up (by simp) boxS_up (Below.refl _ _)⟩ | exact ⟨rfl,gh,fun _ _ => rfl,rfl,HS2.out.same (by decide) (by decide) fun h => h.up (by simp) boxS_up (Below.refl _ _)⟩
     refine ⟨fun gh listed A X hI hcl hin hun hall => ⟨Reg.wanted_none rfl,?_⟩,?_⟩
     ·have e49 : A.tmps[49]? = some (.pointer (some ⟨ab,0,none⟩)) := hI.ev (i := 13) (d := 49) (by rfl) (hall ⟨13,.data⟩ (by simp) rfl);have HS := hI.st;clear hI;have HS2 := qhid HS;clear HS;unfold Reg.Yields
      go_simp
      first | exact ⟨gh,fun _ _ => rfl,rfl,HS2.out.same (by decide) (by decide) fun h => h.up (by simp) boxS_up (Below.refl _ _)⟩ | exact ⟨rfl,gh,fun _ _ => rfl,rfl,HS2.out.same (by decide) (by decide) fun h => h.up (by simp) boxS_up (Below.refl _ _)⟩
     refine ⟨fun gh listed A X hI hcl hin hun hall => ⟨Reg.wanted_none rfl,?_⟩,?_⟩
     ·have e48 : A.tmps[48]? = some (gh 12) := hI.ev (i := 12) (d := 48) (by rfl) (hall ⟨12,.data⟩ (by simp) rfl);have e50 : A.tmps[50]? = some (.pointer (some ⟨ab,1,none⟩)) := hI.ev (i := 14) (d := 50) (by rfl) (hall ⟨14,.data⟩ (by simp) rfl);have HS := hI.st;have hl : listed.getD 12 false = true := hall ⟨12,.data⟩ (by simp) rfl;have HR := qhid (HS.done hl (by simpa using hun));obtain ⟨Y,hY,hg,ho⟩ := HR.out;obtain ⟨gw,cw,hvw,_,_⟩ := ho.form (by omega);rw [hvw] at e48;have hme := wg_grew HME.out hY hg HNO1.out;obtain ⟨c0,c1,c2,c3⟩ := au_cells hme;have hfz := jU hme 1;have HL := qhid hl;have HVW := qhid hvw;clear ho hY hg hme hl hI hvw;have HS2 := qhid HS;clear HS;unfold Reg.Yields
      go_simp
      exact ⟨gh,fun _ _ => rfl,rfl,HS2.out.put (by decide) (by simpa using hin) HL.out ⟨_,HR.out,by rw [HVW.out]⟩⟩
     trivial
    ·intro gh X9 hS;have HR := qhid (hS.fin (by rfl));clear hS;simp [Reg.finalTmps,Reg.dstAt,Reg.valOf,nw9];obtain ⟨Z,⟨Y,hY,hg,ho⟩,hXZ⟩ := HR.out;have hN2 := HNW.out.setS HAB.out hY hg (by rw [<- HSS.out];exact ho) hXZ;obtain ⟨sv2,hs2⟩ : ∃ v,v = gh 12 := ⟨_,rfl⟩;rw [<- hs2] at hN2 ⊢;have HN2 := qhid hN2;have HME2 := qhid hN2.me;have HWG2 := qhid (HWG1.out.up hN2.bel);have HNO3 := qhid (hN2.off3);have HSZ2 := qhid hN2.bel.size;clear ho hY hg hXZ hN2 hs2 HR
     go_upto_region 10 with fail
     refine Reg.wp_region_H (nw10 ab wb k nv) (Reg.AppR 13 16 (Reg.MkP X9 [10,11,12,13] (nxP c n k)) (fun gh X => ∃ Y,Below X9.heap.size X9 Y /\ Y.grownBy X nv.ownBlock /\ ∃ v,ArAt Y v (poF c k) /\ X.ownsRow w1.heap.size 126 1 (gh 13) (k + 1) (vs ++ [v])) (fun gh X => ∃ Z,(∃ Y,Below X9.heap.size X9 Y /\ Y.grownBy Z nv.ownBlock /\ ∃ v,ArAt Y v (poF c k) /\ Z.ownsRow w1.heap.size 126 1 (gh 13) (k + 1) (vs ++ [v])) /\ X = Z.setCell ⟨ab,3,none⟩ (gh 13))) (fun _ => undef) [0,1,2,3,4,5,6,7,8,9,10,11,12,13,14,15,16] (by rfl) (by kernel_rfl) (by kernel_rfl) ?_ ?_ ?_
     ·exact Reg.AppR.start (Reg.MkP.start _ _)
     ·refine ⟨fun gh listed A X hI hcl hin hun hall => ⟨Reg.wanted_none rfl,?_⟩,?_⟩
      ·have e6 := hI.evo (d := 6) (by kernel_rfl) rfl;have HS := hI.st;clear hI;have HS2 := qhid HS;clear HS;unfold Reg.Yields
       go_simp
       first | exact ⟨gh,fun _ _ => rfl,rfl,HS2.out.same (by decide) (by decide) fun h => h.up (by simp) nxP_up (Below.refl _ _)⟩ | exact ⟨rfl,gh,fun _ _ => rfl,rfl,HS2.out.same (by decide) (by decide) fun h => h.up (by simp) nxP_up (Below.refl _ _)⟩
      refine ⟨fun gh listed A X hI hcl hin hun hall => ⟨Reg.wanted_none rfl,?_⟩,?_⟩
      ·have e6 := hI.evo (d := 6) (by kernel_rfl) rfl;have HS := hI.st;have hR := HS.ahead (Reg.un_of_reach hcl (n := 13) (i := 1) (by kernel_rfl) (by simpa using hun));have hX := hR.bel;clear hI;have HS2 := qhid HS;clear HS hR hX;unfold Reg.Yields
       go_simp
       first | exact ⟨gh,fun _ _ => rfl,rfl,HS2.out.same (by decide) (by decide) fun h => h.up (by simp) nxP_up (Below.refl _ _)⟩ | exact ⟨rfl,gh,fun _ _ => rfl,rfl,HS2.out.same (by decide) (by decide) fun h => h.up (by simp) nxP_up (Below.refl _ _)⟩
      refine ⟨fun gh listed A X hI hcl hin hun hall => ⟨Reg.wanted_none rfl,?_⟩,?_⟩
      ·have e52 : A.tmps[52]? = some (.pointer (some ⟨ab,0,none⟩)) := hI.ev (i := 1) (d := 52) (by rfl) (hall ⟨1,.data⟩ (by simp) rfl);have HS := hI.st;have hR := HS.ahead (Reg.un_of_reach hcl (n := 13) (i := 2) (by kernel_rfl) (by simpa using hun));have hX := hR.bel;clear hI;have HS2 := qhid HS;clear HS hR hX;unfold Reg.Yields
       go_simp
       first | exact ⟨gh,fun _ _ => rfl,rfl,HS2.out.same (by decide) (by decide) fun h => h.up (by simp) nxP_up (Below.refl _ _)⟩ | exact ⟨rfl,gh,fun _ _ => rfl,rfl,HS2.out.same (by decide) (by decide) fun h => h.up (by simp) nxP_up (Below.refl _ _)⟩
      refine ⟨fun gh listed A X hI hcl hin hun hall => ⟨Reg.wanted_none rfl,?_⟩,?_⟩
      ·have e53 : A.tmps[53]? = some (.pointer (some ⟨ab,0,none⟩)) := hI.ev (i := 2) (d := 53) (by rfl) (hall ⟨2,.data⟩ (by simp) rfl);have HS := hI.st;have hR := HS.ahead (Reg.un_of_reach hcl (n := 13) (i := 3) (by kernel_rfl) (by simpa using hun));have hX := hR.bel;clear hI;have HS2 := qhid HS;clear HS hR hX;unfold Reg.Yields
       go_simp
       first | exact ⟨gh,fun _ _ => rfl,rfl,HS2.out.same (by decide) (by decide) fun h => h.up (by simp) nxP_up (Below.refl _ _)⟩ | exact ⟨rfl,gh,fun _ _ => rfl,rfl,HS2.out.same (by decide) (by decide) fun h => h.up (by simp) nxP_up (Below.refl _ _)⟩
      refine ⟨fun gh listed A X hI hcl hin hun hall => ⟨Reg.wanted_none rfl,?_⟩,?_⟩
      ·have e54 : A.tmps[54]? = some (.pointer (some ⟨ab,3,none⟩)) := hI.ev (i := 3) (d := 54) (by rfl) (hall ⟨3,.data⟩ (by simp) rfl);have HS := hI.st;have hR := HS.ahead (Reg.un_of_reach hcl (n := 13) (i := 4) (by kernel_rfl) (by simpa using hun));have hX := hR.bel;obtain ⟨c0,c1,c2,c3⟩ := au_cells (Reg.heap_kept_up HME2.out hX);clear hI;have HS2 := qhid HS;clear HS hR hX;unfold Reg.Yields
       go_simp
       first | exact ⟨gh,fun _ _ => rfl,rfl,HS2.out.same (by decide) (by decide) fun h => h.up (by simp) nxP_up (Below.refl _ _)⟩ | exact ⟨rfl,gh,fun _ _ => rfl,rfl,HS2.out.same (by decide) (by decide) fun h => h.up (by simp) nxP_up (Below.refl _ _)⟩
      refine ⟨fun gh listed A X hI hcl hin hun hall => ⟨Reg.wanted_none rfl,?_⟩,?_⟩
      ·have e6 := hI.evo (d := 6) (by kernel_rfl) rfl;have HS := hI.st;have hR := HS.ahead (Reg.un_of_reach hcl (n := 13) (i := 5) (by kernel_rfl) (by simpa using hun));have hX := hR.bel;clear hI;have HS2 := qhid HS;clear HS hR hX;unfold Reg.Yields
       go_simp
       first | exact ⟨gh,fun _ _ => rfl,rfl,HS2.out.same (by decide) (by decide) fun h => h.up (by simp) nxP_up (Below.refl _ _)⟩ | exact ⟨rfl,gh,fun _ _ => rfl,rfl,HS2.out.same (by decide) (by decide) fun h => h.up (by simp) nxP_up (Below.refl _ _)⟩
      refine ⟨fun gh listed A X hI hcl hin hun hall => ⟨Reg.wanted_none rfl,?_⟩,?_⟩
      ·have e56 : A.tmps[56]? = some (.pointer (some ⟨ab,0,none⟩)) := hI.ev (i := 5) (d := 56) (by rfl) (hall ⟨5,.data⟩ (by simp) rfl);have HS := hI.st;have hR := HS.ahead (Reg.un_of_reach hcl (n := 13) (i := 6) (by kernel_rfl) (by simpa using hun));have hX := hR.bel;clear hI;have HS2 := qhid HS;clear HS hR hX;unfold Reg.Yields
       go_simp
       first | exact ⟨gh,fun _ _ => rfl,rfl,HS2.out.same (by decide) (by decide) fun h => h.up (by simp) nxP_up (Below.refl _ _)⟩ | exact ⟨rfl,gh,fun _ _ => rfl,rfl,HS2.out.same (by decide) (by decide) fun h => h.up (by simp) nxP_up (Below.refl _ _)⟩
      refine ⟨fun gh listed A X hI hcl hin hun hall => ⟨Reg.wanted_none rfl,?_⟩,?_⟩
      ·have e57 : A.tmps[57]? = some (.pointer (some ⟨ab,0,none⟩)) := hI.ev (i := 6) (d := 57) (by rfl) (hall ⟨6,.data⟩ (by simp) rfl);have HS := hI.st;have hR := HS.ahead (Reg.un_of_reach hcl (n := 13) (i := 7) (by kernel_rfl) (by simpa using hun));have hX := hR.bel;clear hI;have HS2 := qhid HS;clear HS hR hX;unfold Reg.Yields
       go_simp
       first | exact ⟨gh,fun _ _ => rfl,rfl,HS2.out.same (by decide) (by decide) fun h => h.up (by simp) nxP_up (Below.refl _ _)⟩ | exact ⟨rfl,gh,fun _ _ => rfl,rfl,HS2.out.same (by decide) (by decide) fun h => h.up (by simp) nxP_up (Below.refl _ _)⟩
      refine ⟨fun gh listed A X hI hcl hin hun hall => ⟨Reg.wanted_none rfl,?_⟩,?_⟩
      ·have e58 : A.tmps[58]? = some (.pointer (some ⟨ab,0,none⟩)) := hI.ev (i := 7) (d := 58) (by rfl) (hall ⟨7,.data⟩ (by simp) rfl);have HS := hI.st;have hR := HS.ahead (Reg.un_of_reach hcl (n := 13) (i := 8) (by kernel_rfl) (by simpa using hun));have hX := hR.bel;obtain ⟨c0,c1,c2,c3⟩ := au_cells (Reg.heap_kept_up HME2.out hX);clear hI;have HS2 := qhid HS;clear HS hR hX;unfold Reg.Yields
       go_simp
       first | exact ⟨gh,fun _ _ => rfl,rfl,HS2.out.same (by decide) (by decide) fun h => h.up (by simp) nxP_up (Below.refl _ _)⟩ | exact ⟨rfl,gh,fun _ _ => rfl,rfl,HS2.out.same (by decide) (by decide) fun h => h.up (by simp) nxP_up (Below.refl _ _)⟩
      refine ⟨fun gh listed A X hI hcl hin hun hall => ⟨Reg.wanted_none rfl,?_⟩,?_⟩
      ·have e7 := hI.evo (d := 7) (by kernel_rfl) rfl;have HS := hI.st;have hR := HS.ahead (Reg.un_of_reach hcl (n := 13) (i := 9) (by kernel_rfl) (by simpa using hun));have hX := hR.bel;clear hI;have HS2 := qhid HS;clear HS hR hX;unfold Reg.Yields
       go_simp
       first | exact ⟨gh,fun _ _ => rfl,rfl,HS2.out.same (by decide) (by decide) fun h => h.up (by simp) nxP_up (Below.refl _ _)⟩ | exact ⟨rfl,gh,fun _ _ => rfl,rfl,HS2.out.same (by decide) (by decide) fun h => h.up (by simp) nxP_up (Below.refl _ _)⟩
      refine ⟨fun gh listed A X hI hcl hin hun hall => ⟨Reg.wanted_none rfl,?_⟩,?_⟩
      ·have e59 : A.tmps[59]? = some (.pointer (some ⟨wb,0,none⟩)) := hI.ev (i := 8) (d := 59) (by rfl) (hall ⟨8,.data⟩ (by simp) rfl);have e60 : A.tmps[60]? = some (.int .i64 (k : Int)) := hI.ev (i := 9) (d := 60) (by rfl) (hall ⟨9,.data⟩ (by simp) rfl);have HS := hI.st;have hR := HS.ahead (Reg.un_of_reach hcl (n := 13) (i := 10) (by kernel_rfl) (by simpa using hun));have hX := hR.bel;have HM := qhid (follow_any X wb c (HWG2.out.up hX) k _ (poT_at HKN.out));rw [<- HNP.out] at HM;clear hI;have HS2 := qhid HS;clear HS hR hX;unfold Reg.Yields
       go_simp
       refine HM.out.mono ?_;rintro e w2 ⟨g2,he,hv,hb⟩;exact ⟨_,he,Reg.updP gh 10 (.slice (some ⟨g2,0,none⟩) n n),fun j hj => nw10_10 (j := j) (fun e => by rw [e] at hj;rw [hj] at hun;cases hun),rfl,HS2.out.step (by decide) (by decide) (Reg.un_of_reach hcl (n := 13) (i := 10) (by kernel_rfl) (by simpa using hun)) (Reg.un_of_reach hcl (n := 16) (i := 10) (by kernel_rfl) (by simpa using hun)) fun h => h.new _ nxP_up (hb) (⟨fun _ => ⟨g2,rfl,hv⟩,fun e => absurd e (by decide),fun e => absurd e (by decide)⟩)⟩
      refine ⟨fun gh listed A X hI hcl hin hun hall => ⟨Reg.wanted_none rfl,?_⟩,?_⟩
      ·have e61 : A.tmps[61]? = some (gh 10) := hI.ev (i := 10) (d := 61) (by rfl) (hall ⟨10,.data⟩ (by simp) rfl);have HS := hI.st;have hR := HS.ahead (Reg.un_of_reach hcl (n := 13) (i := 11) (by kernel_rfl) (by simpa using hun));have hX := hR.bel;obtain ⟨gs,hgs,hsl⟩ := (hR.at_ 10 (by simp) (hall ⟨10,.data⟩ (by simp) rfl)).1 rfl;rw [hgs] at e61;have HM := qhid (arrows_any X gs n n (poN c k) (by have := HN6.out;omega) hsl);clear hgs hsl;clear hI;have HS2 := qhid HS;clear HS hR hX;unfold Reg.Yields
       go_simp
       refine HM.out.mono ?_;rintro e w2 ⟨v2,he,hv,hb⟩;exact ⟨_,he,Reg.updP gh 11 v2,fun j hj => nw10_11 (j := j) (fun e => by rw [e] at hj;rw [hj] at hun;cases hun),rfl,HS2.out.step (by decide) (by decide) (Reg.un_of_reach hcl (n := 13) (i := 11) (by kernel_rfl) (by simpa using hun)) (Reg.un_of_reach hcl (n := 16) (i := 11) (by kernel_rfl) (by simpa using hun)) fun h => h.new _ nxP_up (hb) (⟨fun e => absurd e (by decide),fun _ => (by unfold poF;rw [<- HNP.out];exact hv),fun e => absurd e (by decide)⟩)⟩
      refine ⟨fun gh listed A X hI hcl hin hun hall => ⟨Reg.wanted_none rfl,?_⟩,?_⟩
      ·have e62 : A.tmps[62]? = some (gh 11) := hI.ev (i := 11) (d := 62) (by rfl) (hall ⟨11,.data⟩ (by simp) rfl);have HS := hI.st;have hR := HS.ahead (Reg.un_of_reach hcl (n := 13) (i := 12) (by kernel_rfl) (by simpa using hun));have hX := hR.bel;have hP := (hR.at_ 11 (by simp) (hall ⟨11,.data⟩ (by simp) rfl)).2.1 rfl;have HP := qhid hP;obtain ⟨sp1,sc1,hgs⟩ := owns_slice hP.choose_spec;rw [hgs] at e62;have HGS := qhid hgs;clear hP hgs;clear hI;have HS2 := qhid HS;clear HS hR hX;unfold Reg.Yields
       go_simp
       exact ⟨Reg.updP gh 12 (.slice (some ⟨X.heap.size,0,none⟩) 1 1),fun j hj => nw10_12 (j := j) (fun e => by rw [e] at hj;rw [hj] at hun;cases hun),rfl,HS2.out.step (by decide) (by decide) (Reg.un_of_reach hcl (n := 13) (i := 12) (by kernel_rfl) (by simpa using hun)) (Reg.un_of_reach hcl (n := 16) (i := 12) (by kernel_rfl) (by simpa using hun)) fun h => h.new _ nxP_up (below1 _ _) (⟨fun e => absurd e (by decide),fun e => absurd e (by decide),fun _ => ⟨_,_,rfl,heap_new _ _,by have := HP.out;rw [HGS.out] at this;exact this.up (below1 _ _)⟩⟩)⟩
      refine ⟨fun gh listed A X hI hcl hin hun hall => ⟨Reg.wanted_none rfl,?_⟩,?_⟩
      ·have e55 : A.tmps[55]? = some (nv) := hI.ev (i := 4) (d := 55) (by rfl) (hall ⟨4,.data⟩ (by simp) rfl);have e63 : A.tmps[63]? = some (gh 12) := hI.ev (i := 12) (d := 63) (by rfl) (hall ⟨12,.data⟩ (by simp) rfl);have HS := hI.st;have hR := HS.ahead (by simpa using hun);have hX := hR.bel;obtain ⟨gs,va,hgs,hsl,hva⟩ := (hR.at_ 12 (by simp) (hall ⟨12,.data⟩ (by simp) rfl)).2.2 rfl;rw [hgs] at e63;obtain ⟨sp1,sc1,rfl⟩ := owns_slice hva.choose_spec;obtain ⟨i0,hif,hy0,hy1,hy2⟩ := info_parts Tryz.infoArS;have hrow := ownsBelow HN2.out.nrow hX;have hsz := hX.size;have hsz1 := HSZ2.out;have hk6 := HK6.out;have HX := qhid hX;have HVA := qhid hva;clear hgs hva;clear hI;have HS2 := qhid HS;clear HS hR hX;refine Reg.yields_append_own (.tmp 55) (.tmp 63) 127 rfl w1.heap.size 126 i0 (.slice none 0 0) 1 24 Tryz.underlying127 hif hy0 hy1 hy2 rfl (by decide) nv k vs (by simp [Act.eval,e55]) hrow ⟨gs,0,none⟩ 1 1 [.slice sp1 (poF c k).length sc1] (by simp [Act.eval,e63]) rfl (ccells_h hsl) (by intro u hu;rw [List.mem_singleton.1 hu];rfl) (by unfold maxLen;omega) (by omega) (by omega) ?_;intro v' w' ho hg _;exact ⟨Reg.updP gh 13 v',fun j hj => nw10_13 (j := j) (fun e => by rw [e] at hj;rw [hj] at hun;cases hun),rfl,HS2.out.last (by decide) (by simpa using hin) (Reg.un_of_reach hcl (n := 16) (i := 13) (by kernel_rfl) (by simpa using hun)) ⟨X,HX.out,hg,_,HVA.out,ho⟩⟩
      refine ⟨fun gh listed A X hI hcl hin hun hall => ⟨Reg.wanted_none rfl,?_⟩,?_⟩
      ·have e51 : A.tmps[51]? = some (.pointer (some ⟨ab,0,none⟩)) := hI.ev (i := 0) (d := 51) (by rfl) (hall ⟨0,.data⟩ (by simp) rfl);have HS := hI.st;clear hI;have HS2 := qhid HS;clear HS;unfold Reg.Yields
       go_simp
       first | exact ⟨gh,fun _ _ => rfl,rfl,HS2.out.same (by decide) (by decide) fun h => h.up (by simp) nxP_up (Below.refl _ _)⟩ | exact ⟨rfl,gh,fun _ _ => rfl,rfl,HS2.out.same (by decide) (by decide) fun h => h.up (by simp) nxP_up (Below.refl _ _)⟩
      refine ⟨fun gh listed A X hI hcl hin hun hall => ⟨Reg.wanted_none rfl,?_⟩,?_⟩
      ·have e65 : A.tmps[65]? = some (.pointer (some ⟨ab,0,none⟩)) := hI.ev (i := 14) (d := 65) (by rfl) (hall ⟨14,.data⟩ (by simp) rfl);have HS := hI.st;clear hI;have HS2 := qhid HS;clear HS;unfold Reg.Yields
       go_simp
       first | exact ⟨gh,fun _ _ => rfl,rfl,HS2.out.same (by decide) (by decide) fun h => h.up (by simp) nxP_up (Below.refl _ _)⟩ | exact ⟨rfl,gh,fun _ _ => rfl,rfl,HS2.out.same (by decide) (by decide) fun h => h.up (by simp) nxP_up (Below.refl _ _)⟩
      refine ⟨fun gh listed A X hI hcl hin hun hall => ⟨Reg.wanted_none rfl,?_⟩,?_⟩
      ·have e64 : A.tmps[64]? = some (gh 13) := hI.ev (i := 13) (d := 64) (by rfl) (hall ⟨13,.data⟩ (by simp) rfl);have e66 : A.tmps[66]? = some (.pointer (some ⟨ab,3,none⟩)) := hI.ev (i := 15) (d := 66) (by rfl) (hall ⟨15,.data⟩ (by simp) rfl);have HS := hI.st;have hl : listed.getD 13 false = true := hall ⟨13,.data⟩ (by simp) rfl;have HR := qhid (HS.done hl (by simpa using hun));obtain ⟨Y,hY,hg,va,_,ho⟩ := HR.out;obtain ⟨gw,cw,hvw,_,_⟩ := ho.form (by omega);rw [hvw] at e64;have hme := wg_grew HME2.out hY hg HNO3.out;obtain ⟨c0,c1,c2,c3⟩ := au_cells hme;have hfz := jU hme 3;have HL := qhid hl;have HVW := qhid hvw;clear ho hY hg hme hl hI hvw;have HS2 := qhid HS;clear HS;unfold Reg.Yields
       go_simp
       exact ⟨gh,fun _ _ => rfl,rfl,HS2.out.put (by decide) (by simpa using hin) HL.out ⟨_,HR.out,by rw [HVW.out]⟩⟩
      trivial
     ·intro gh X hS;have HR := qhid (hS.fin (by rfl));clear hS;simp [Reg.finalTmps,Reg.dstAt,Reg.valOf,nw10];obtain ⟨Z,⟨Y,hY,hg,va,hva,ho⟩,hXZ⟩ := HR.out;have hN3 := HN2.out.setN HAB.out hY hg hva ho hXZ;obtain ⟨nv2,hs2⟩ : ∃ v,v = gh 13 := ⟨_,rfl⟩;rw [<- hs2] at hN3;have HN3 := qhid hN3;clear ho hY hg hva hXZ hN3 HR;have hn6 := HN6.out
      go_wp2_with fail
      go_roundw
      case rel => exact ⟨k + 1,_,_,_,by omega,by go_num,HN3⟩
      case measure => simp [intOf];omega
   ·obtain rfl : k = n := by omega
    go_wp2_with fail
    exact bodyPost_ret (v := .tuple #[.pointer (some ⟨ab,0,none⟩),.int .i64 0]) (by simp [results,Tryz.results106,go_sem]) rfl ⟨HB.out.trans (HNW.out.bel.mono HB.out.size),.inl ⟨by rw [<- HNP.out];exact HN6.out,ab,rfl,HNW.out.made HNP.out HWG1.out⟩⟩
 ·have HB := qhid hb;have H6 := qhid h6;clear hb h6 HN
  go_wp2_with fail
  exact bodyPost_ret (v := .tuple #[.pointer none,.int .i64 3]) (by simp [results,Tryz.results106,go_sem]) rfl ⟨HB.out,.inr ⟨H6.out,rfl⟩⟩
end
end
end Go.Proofs.YtnmalggmbeipaaaGreatDoor
