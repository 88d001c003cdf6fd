/- A part of the proof. -/
import Derived.Test.YtnmalggmbeipaaaGreatDoorCoD
import Derived.Test.YtnmalggmbeipaaaGreatDoorRegion
set_option maxRecDepth 100000
set_option maxHeartbeats 16000000
namespace Go.Proofs.YtnmalggmbeipaaaGreatDoor
section
open Go Go.RowKit
attribute [local go_sem ↓] Go.wp_at_zero Go.wp_at_succ
attribute [local go_sem] eq4
attribute [local go_sem] run_store_fncQ
theorem rep_getT {m j : Nat} {u v : Tr} (h : (List.replicate m u)[j]? = some v) : j < m /\ v = u := by
 rw [List.getElem?_replicate] at h
 split at h
 ·exact ⟨by assumption,(Option.some.inj h).symm⟩
 ·cases h
def t1T (pc : Option Addr) (pb : Option Addr) (kb : Nat) (q : Nat) (z : Bool) (gh : Value × Value) : Nat -> Value
 | 0 => .func (.func 151) #[] #[.pointer (some ⟨kb,0,none⟩)]
 | 1 => .pointer pc
 | 2 => .pointer pb
 | 3 => gh.1
 | 4 => .pointer (some ⟨q,0,none⟩)
 | 5 => .pointer (some ⟨q,0,none⟩)
 | 6 => .pointer (some ⟨q,7,none⟩)
 | 7 => .bool z
 | 8 => gh.2
 | 9 => gh.2
 | _ => undef
theorem t1T_a {pc : Option Addr} {pb : Option Addr} {kb : Nat} {q : Nat} {z : Bool} {gh : Value × Value} {gx} {j : Nat} (h3 : j ≠ 3) : t1T pc pb kb q z (gx,gh.2) j = t1T pc pb kb q z gh j := by
 unfold t1T
 split <;> first | rfl | exact absurd rfl ‹_›
theorem t1T_b {pc : Option Addr} {pb : Option Addr} {kb : Nat} {q : Nat} {z : Bool} {gh : Value × Value} {gx} {j : Nat} (h8 : j ≠ 8) (h9 : j ≠ 9) : t1T pc pb kb q z (gh.1,gx) j = t1T pc pb kb q z gh j := by
 unfold t1T
 split <;> first | rfl | exact absurd rfl ‹_›
theorem ctail1_any (cb kb nb q : Nat) (k : Int) (s : W4) (lo hi : Int) (z : Bool) (lv : Value) (na nb' : Nat) (c b : Co) (vc vb : Value) (w : World) (hcb : w.cell? ⟨cb,0,none⟩ = some (.func (.func 151) #[] #[.pointer (some ⟨kb,0,none⟩)])) (hcl : cb < w.heap.size) (hkb : w.heap[kb]? = some (.cells #[.int .i64 2] 3))
  (hnb : w.cell? ⟨nb,0,none⟩ = some (ndPtr q)) (hnl : nb < w.heap.size) (hq : w.heap[q]? = some (ndOb k s lo hi z lv na nb')) (hc : CoAt w c vc) (hb : CoAt w b vb) :
  Calls Tryz.prog 201 #[vc,vb,.pointer (some ⟨cb,0,none⟩),.pointer (some ⟨nb,0,none⟩)] w fun e w' => ∃ v,e = .returned v /\ CoAt w' (choiceC z (joinC 2 c b)) v /\ Below w.heap.size w w' := by
 obtain ⟨pc,rfl⟩ := hc.ptr;obtain ⟨pb,rfl⟩ := hb.ptr;have HJ := qhid (fun (X : World) (hX : Below w.heap.size w X) => cjoined1_any 2 kb c b _ _ X ((jC (below_kept hX hkb) 0).trans rfl) (hc.up hX) (hb.up hX));have HC := qhid hcb;have HL1 := qhid hcl;have HN := qhid hnb;have HL2 := qhid hnl;have HQ := qhid hq;clear hcb hkb hnb hq hc hb hcl hnl
 go_enter Tryz.func201,Tryz.ntmps201
 go_upto_region 1 with fail
 refine Reg.wp_region_H (t1T pc pb kb q z) (Reg.MkS w 3 8 (fun g X => CoAt X (joinC 2 c b) g.1) (fun g X => CoAt X (choiceC z (joinC 2 c b)) g.2)) (undef,undef) [0,1,2,3,4,5,6,7,8,9] (by rfl) (by kernel_rfl) (by kernel_rfl) ?_ ?_ ?_
 ·exact Reg.MkS.start _ _
 ·refine ⟨fun gh listed A X hI hcl hin hun hall => ⟨Reg.wanted_none rfl,?_⟩,?_⟩
  ·have e2 := hI.evo (d := 2) (by kernel_rfl) rfl;have HS := hI.st;have hX := HS.bel;have f := (hX.cell (p := ⟨cb,0,none⟩) HL1.out).trans HC.out;have HX := qhid hX;clear hI hX;unfold Reg.Yields
   go_simp
   exact ⟨gh,fun _ _ => rfl,rfl,HS.up (by decide) (by decide) (by intro g X Y hb h;exact h.up hb) (by intro g X Y hb h;exact h.up hb) (Below.refl _ _)⟩
  refine ⟨fun gh listed A X hI hcl hin hun hall => ⟨Reg.wanted_none rfl,?_⟩,?_⟩
  ·have e0 := hI.evo (d := 0) (by kernel_rfl) rfl;have HS := hI.st;have hX := HS.bel;have HX := qhid hX;clear hI hX;unfold Reg.Yields
   go_simp
   exact ⟨gh,fun _ _ => rfl,rfl,HS.up (by decide) (by decide) (by intro g X Y hb h;exact h.up hb) (by intro g X Y hb h;exact h.up hb) (Below.refl _ _)⟩
  refine ⟨fun gh listed A X hI hcl hin hun hall => ⟨Reg.wanted_none rfl,?_⟩,?_⟩
  ·have e1 := hI.evo (d := 1) (by kernel_rfl) rfl;have HS := hI.st;have hX := HS.bel;have HX := qhid hX;clear hI hX;unfold Reg.Yields
   go_simp
   exact ⟨gh,fun _ _ => rfl,rfl,HS.up (by decide) (by decide) (by intro g X Y hb h;exact h.up hb) (by intro g X Y hb h;exact h.up hb) (Below.refl _ _)⟩
  refine ⟨fun gh listed A X hI hcl hin hun hall => ⟨Reg.wanted_none rfl,?_⟩,?_⟩
  ·have e7 : A.tmps[7]? = some (.func (.func 151) #[] #[.pointer (some ⟨kb,0,none⟩)]) := hI.ev (i := 0) (d := 7) (by rfl) (hall ⟨0,.data⟩ (by simp) rfl);have e8 : A.tmps[8]? = some (.pointer pc) := hI.ev (i := 1) (d := 8) (by rfl) (hall ⟨1,.data⟩ (by simp) rfl);have e9 : A.tmps[9]? = some (.pointer pb) := hI.ev (i := 2) (d := 9) (by rfl) (hall ⟨2,.data⟩ (by simp) rfl);have HS := hI.st;have hX := HS.bel;have HX := qhid hX;clear hI hX;unfold Reg.Yields
   go_simp
   exact (HJ.out X HX.out).mono fun e w2 h => by
    obtain ⟨v,he,hc,hb⟩ := h;exact ⟨v,he,(v,gh.2),fun j hj => t1T_a (j := j) (fun e => by rw [e] at hj;rw [hj] at hun;cases hun),rfl,HS.first (by decide) (Reg.un_of_reach hcl (n := 8) (i := 3) (by kernel_rfl) (by simpa using hun)) hb hc⟩
  refine ⟨fun gh listed A X hI hcl hin hun hall => ⟨Reg.wanted_none rfl,?_⟩,?_⟩
  ·have e3 := hI.evo (d := 3) (by kernel_rfl) rfl;have HS := hI.st;have hX := HS.bel;have f := (hX.cell (p := ⟨nb,0,none⟩) HL2.out).trans HN.out;have HX := qhid hX;clear hI hX;unfold Reg.Yields
   go_simp
   exact ⟨gh,fun _ _ => rfl,rfl,HS.up (by decide) (by decide) (by intro g X Y hb h;exact h.up hb) (by intro g X Y hb h;exact h.up hb) (Below.refl _ _)⟩
  refine ⟨fun gh listed A X hI hcl hin hun hall => ⟨Reg.wanted_none rfl,?_⟩,?_⟩
  ·have e11 : A.tmps[11]? = some (.pointer (some ⟨q,0,none⟩)) := hI.ev (i := 4) (d := 11) (by rfl) (hall ⟨4,.data⟩ (by simp) rfl);have HS := hI.st;have hX := HS.bel;have hb := (hX.block _ (jS HQ.out)).trans HQ.out;have y7 := jC hb 7;have hyl := jS hb;simp only [List.getElem?_toArray,List.getElem?_cons_zero,List.getElem?_cons_succ] at y7;clear hb;have HX := qhid hX;clear hI hX;unfold Reg.Yields
   go_simp
   exact ⟨gh,fun _ _ => rfl,rfl,HS.up (by decide) (by decide) (by intro g X Y hb h;exact h.up hb) (by intro g X Y hb h;exact h.up hb) (Below.refl _ _)⟩
  refine ⟨fun gh listed A X hI hcl hin hun hall => ⟨Reg.wanted_none rfl,?_⟩,?_⟩
  ·have e12 : A.tmps[12]? = some (.pointer (some ⟨q,0,none⟩)) := hI.ev (i := 5) (d := 12) (by rfl) (hall ⟨5,.data⟩ (by simp) rfl);have HS := hI.st;have hX := HS.bel;have hb := (hX.block _ (jS HQ.out)).trans HQ.out;have y7 := jC hb 7;have hyl := jS hb;simp only [List.getElem?_toArray,List.getElem?_cons_zero,List.getElem?_cons_succ] at y7;clear hb;have HX := qhid hX;clear hI hX;unfold Reg.Yields
   go_simp
   exact ⟨gh,fun _ _ => rfl,rfl,HS.up (by decide) (by decide) (by intro g X Y hb h;exact h.up hb) (by intro g X Y hb h;exact h.up hb) (Below.refl _ _)⟩
  refine ⟨fun gh listed A X hI hcl hin hun hall => ⟨Reg.wanted_none rfl,?_⟩,?_⟩
  ·have e13 : A.tmps[13]? = some (.pointer (some ⟨q,7,none⟩)) := hI.ev (i := 6) (d := 13) (by rfl) (hall ⟨6,.data⟩ (by simp) rfl);have HS := hI.st;have hX := HS.bel;have hb := (hX.block _ (jS HQ.out)).trans HQ.out;have y7 := jC hb 7;have hyl := jS hb;simp only [List.getElem?_toArray,List.getElem?_cons_zero,List.getElem?_cons_succ] at y7;clear hb;have HX := qhid hX;clear hI hX;unfold Reg.Yields
   go_simp
   exact ⟨gh,fun _ _ => rfl,rfl,HS.up (by decide) (by decide) (by intro g X Y hb h;exact h.up hb) (by intro g X Y hb h;exact h.up hb) (Below.refl _ _)⟩
  refine ⟨fun gh listed A X hI hcl hin hun hall => ⟨Reg.wanted_none rfl,?_⟩,?_⟩
  ·have e10 : A.tmps[10]? = some (gh.1) := hI.ev (i := 3) (d := 10) (by rfl) (hall ⟨3,.data⟩ (by simp) rfl);have e14 : A.tmps[14]? = some (.bool z) := hI.ev (i := 7) (d := 14) (by rfl) (hall ⟨7,.data⟩ (by simp) rfl);have HS := hI.st;have hX := HS.bel;have HX := qhid hX;clear hI hX;unfold Reg.Yields
   go_simp
   exact (cchoice_any z _ gh.1 X (HS.one (hall ⟨3,.data⟩ (by simp) rfl))).mono fun e w2 h => by
    obtain ⟨v,he,hc,hb⟩ := h;exact ⟨v,he,(gh.1,v),fun j hj => t1T_b (j := j) (fun e => by rw [e] at hj;rw [hj] at hun;cases hun) (fun e => by rw [e] at hj;rw [Reg.closed_reach hcl 60 9 8 (by kernel_rfl) hj] at hun;cases hun),rfl,HS.second (by decide) (by intro g X Y hb h;exact h.up hb) (fun _ h => h) hb hc⟩
  refine ⟨fun gh listed A X hI hcl hin hun hall => ⟨Reg.wanted_none rfl,?_⟩,?_⟩
  ·have e15 : A.tmps[15]? = some (gh.2) := hI.ev (i := 8) (d := 15) (by rfl) (hall ⟨8,.data⟩ (by simp) rfl);have HS := hI.st;have hX := HS.bel;have HX := qhid hX;clear hI hX;unfold Reg.Yields
   go_simp
   exact ⟨gh,fun _ _ => rfl,rfl,HS.up (by decide) (by decide) (by intro g X Y hb h;exact h.up hb) (by intro g X Y hb h;exact h.up hb) (Below.refl _ _)⟩
  trivial
 ·intro gh X hS;have HX := qhid hS.bel;have H1 := qhid (hS.one (by rfl));have H2 := qhid (hS.two (by rfl));clear hS;simp [Reg.finalTmps,Reg.dstAt,Reg.valOf,t1T]
  go_wp2_with fail
  go_ret
  exact ⟨_,rfl,H2.out,HX.out⟩
theorem cf_tail1 (args : Array Value) (W : World) : (callFunc 201 args).run Tryz.prog W = .ok (.enter 201 args) W := by
 simp [callFunc,go_sem,Tryz.func201];rfl
theorem ccopies_any (A : Nat -> Prop) (k : Int) (s : W4) (lo hi : Int) (z : Bool) (na nb : Nat) (u : Tr) (q n : Nat) (w : World) (hN : NdAt w A (.mk k s lo hi z na nb [u]) (ndPtr q)) (hn : n <= 1000) (hB : BuildC u) (hne : coreT u ≠ .nil) :
  Calls Tryz.prog 154 #[ndPtr q,.int .i64 (n : Int)] w fun e w' => ∃ r,e = .returned r /\ CosAt w' r (List.replicate n (coreT u)) /\ Below w.heap.size w w' := by
 obtain ⟨q',p,cap,e,_,hq,hk⟩ := hN.head;injection e with e;injection e with e;injection e with e;subst e;obtain ⟨c,v,rfl,hcl,hcc,hu⟩ := hk 0 u rfl;obtain ⟨q2,rfl⟩ := hu.pointer;have x8 := jC hq 8;have hql := jS hq;simp only [List.getElem?_toArray,List.getElem?_cons_zero,List.getElem?_cons_succ,List.length_cons,List.length_nil] at x8;have HR := qhid (crepeat_any c q2 cap n w hn hcc hcl);have HU := qhid hu;have HB := qhid hB;have HNE := qhid hne;clear hN hq hk hcc hcl hu hB hne
 go_enter Tryz.func154,Tryz.ntmps154
 go_wp2_with fail
 refine HR.out.mono ?_;rintro e w1 ⟨rfl,hb1,hs1,hc1⟩
 have HA := qhid (call_any A (List.replicate n u) (.slice (some ⟨w.heap.size,0,none⟩) n n) w1 (fun x hx => by rw [(List.mem_replicate.1 hx).2];exact HB.out) (fun x hx => by rw [(List.mem_replicate.1 hx).2];exact HNE.out) (by rw [List.length_replicate];omega)
  ⟨_,n,by rw [List.length_replicate],fun i x hx => by obtain ⟨h1,rfl⟩ := rep_getT hx;exact ⟨_,q2,rfl,hs1,hc1 i h1,HU.out.up hb1⟩⟩)
 rw [List.map_replicate] at HA;have HB1 := qhid hb1;clear hb1 hs1 hc1 HR x8 hql
 go_wp2_with fail
 refine HA.out.mono ?_;rintro e w2 ⟨r,rfl,hr,hb2⟩;have HR2 := qhid hr;have HB2 := qhid (HB1.out.trans (hb2.mono HB1.out.size));clear hr hb2
 go_wp2_with fail
 go_ret
 exact ⟨_,rfl,HR2.out,HB2.out⟩
def t2T (q : Nat) (c : Nat) (cap : Nat) (q2 : Nat) (z : Bool) (gh : Nat × Nat) : Nat -> Value
 | 0 => .pointer (some ⟨q,0,none⟩)
 | 1 => .pointer (some ⟨q,0,none⟩)
 | 2 => .pointer (some ⟨q,7,none⟩)
 | 3 => .bool z
 | 4 => .pointer (some ⟨q,0,none⟩)
 | 5 => .pointer (some ⟨q,0,none⟩)
 | 6 => .pointer (some ⟨q,8,none⟩)
 | 7 => .slice (some ⟨c,0,none⟩) 1 cap
 | 8 => .pointer (some ⟨c,0,none⟩)
 | 9 => .pointer (some ⟨q2,0,none⟩)
 | 10 => .pointer (some ⟨gh.1,0,none⟩)
 | 11 => .agg #[.int .i64 4,.int .u64 0,.int .u64 0,.int .u64 0,.int .u64 0,.bool z,.pointer (some ⟨gh.1,0,none⟩),.pointer none]
 | 12 => .pointer (some ⟨gh.2,0,none⟩)
 | 13 => .pointer (some ⟨gh.2,0,none⟩)
 | _ => undef
theorem t2T_a {q : Nat} {c : Nat} {cap : Nat} {q2 : Nat} {z : Bool} {gh : Nat × Nat} {gx} {j : Nat} (h10 : j ≠ 10) (h11 : j ≠ 11) : t2T q c cap q2 z (gx,gh.2) j = t2T q c cap q2 z gh j := by
 unfold t2T
 split <;> first | rfl | exact absurd rfl ‹_›
theorem t2T_b {q : Nat} {c : Nat} {cap : Nat} {q2 : Nat} {z : Bool} {gh : Nat × Nat} {gx} {j : Nat} (h12 : j ≠ 12) (h13 : j ≠ 13) : t2T q c cap q2 z (gh.1,gx) j = t2T q c cap q2 z gh j := by
 unfold t2T
 split <;> first | rfl | exact absurd rfl ‹_›
def t4T (q : Nat) (lo : Int) (hi : Int) (n : Nat) (cb : Nat) (nb : Nat) (gh : Value × Value) : Nat -> Value
 | 0 => .pointer (some ⟨q,0,none⟩)
 | 1 => .pointer (some ⟨q,0,none⟩)
 | 2 => .pointer (some ⟨q,0,none⟩)
 | 3 => .pointer (some ⟨q,6,none⟩)
 | 4 => .int .i64 hi
 | 5 => .pointer (some ⟨q,0,none⟩)
 | 6 => .pointer (some ⟨q,0,none⟩)
 | 7 => .pointer (some ⟨q,5,none⟩)
 | 8 => .int .i64 lo
 | 9 => .int .i64 (n : Int)
 | 10 => gh.1
 | 11 => .func (.func 201) #[] #[.pointer (some ⟨cb,0,none⟩),.pointer (some ⟨nb,0,none⟩)]
 | 12 => gh.2
 | 13 => gh.2
 | _ => undef
theorem t4T_a {q : Nat} {lo : Int} {hi : Int} {n : Nat} {cb : Nat} {nb : Nat} {gh : Value × Value} {gx} {j : Nat} (h10 : j ≠ 10) : t4T q lo hi n cb nb (gx,gh.2) j = t4T q lo hi n cb nb gh j := by
 unfold t4T
 split <;> first | rfl | exact absurd rfl ‹_›
theorem t4T_b {q : Nat} {lo : Int} {hi : Int} {n : Nat} {cb : Nat} {nb : Nat} {gh : Value × Value} {gx} {j : Nat} (h12 : j ≠ 12) (h13 : j ≠ 13) : t4T q lo hi n cb nb (gh.1,gx) j = t4T q lo hi n cb nb gh j := by
 unfold t4T
 split <;> first | rfl | exact absurd rfl ‹_›
theorem ctail_any (AA : Nat -> Prop) (lo hi : Int) (z : Bool) (na nb' : Nat) (u : Tr) (q : Nat) (w : World) (hN : NdAt w AA (.mk 6 noW lo hi z na nb' [u]) (ndPtr q)) (hh : hi = -1 \/ (0 <= lo /\ lo <= hi /\ hi <= 1000)) (hB : BuildC u) (hne : coreT u ≠ .nil) :
  Calls Tryz.prog 155 #[ndPtr q] w fun e w' => ∃ v,e = .returned v /\ CoAt w' (tailC lo hi z (coreT u)) v /\ Below w.heap.size w w' := by
 obtain ⟨w1,hw1⟩ : ∃ X,X = w.alloc (.cells #[ndPtr q] 45) := ⟨_,rfl⟩;have b1 : Below w.heap.size w w1 := by rw [hw1];exact below1 w _
 have hN1 := hN.up b1;obtain ⟨q',p,cap,e,_,hq,hk⟩ := hN1.head;injection e with e;injection e with e;injection e with e;subst e;obtain ⟨c,v,rfl,hcl,hcc,hu⟩ := hk 0 u rfl;obtain ⟨q2,rfl⟩ := hu.pointer;obtain ⟨nb,hnb⟩ : ∃ nb,nb = w.heap.size := ⟨_,rfl⟩;have hbx : w1.heap[nb]? = some (.cells #[ndPtr q] 45) := by rw [hw1,hnb];exact heap_new w _
 have HNB := qhid ((jC hbx 0).trans rfl);have HNL := qhid (jS hbx);have HQ := qhid hq;have HCC := qhid hcc;have HCL := qhid hcl;have HU := qhid hu;have HB := qhid hB;have HNE := qhid hne;have HB1 := qhid b1;have HND := qhid hN1;have HW1 := qhid hw1;have HNBE := qhid hnb;have y6 := jC hq 6;have hyq := jS hq;have nb0 := (jC hbx 0).trans rfl;simp only [List.getElem?_toArray,List.getElem?_cons_zero,List.getElem?_cons_succ] at y6;clear hw1 b1 hN1 hq hk hcl hcc hu hnb hbx hN hB hne
 by_cases hm : hi = -1
 ·subst hm
  go_enter Tryz.func155,Tryz.ntmps155
  go_upto_region 1 with fail
  rw [<- HW1.out,<- HNBE.out]
  go_upto_region 2 with fail
  clear y6 nb0 hyq;refine Reg.wp_region_H (t2T q c cap q2 z) (Reg.MkS w1 10 12 (fun g X => CoAt X (coreT u) (.pointer (some ⟨g.1,0,none⟩))) (fun g X => X.heap[g.2]? = some (coOb 4 noW z (.pointer (some ⟨g.1,0,none⟩)) (.pointer none)))) (0,0) [0,1,2,3,4,5,6,7,8,9,10,11,12,13] (by rfl) (by kernel_rfl) (by kernel_rfl) ?_ ?_ ?_
  ·exact Reg.MkS.start _ _
  ·refine ⟨fun gh listed A X hI hcl hin hun hall => ⟨Reg.wanted_none rfl,?_⟩,?_⟩
   ·have e1 := hI.evo (d := 1) (by kernel_rfl) rfl;have HS := hI.st;have hX := HS.bel;have f := (hX.cell (p := ⟨nb,0,none⟩) HNL.out).trans HNB.out;have HX := qhid hX;clear hI hX;unfold Reg.Yields
    go_simp
    exact ⟨gh,fun _ _ => rfl,rfl,HS.up (by decide) (by decide) (by intro g X Y hb h;exact h.up hb) (by intro g X Y hb h;exact below_kept hb h) (Below.refl _ _)⟩
   refine ⟨fun gh listed A X hI hcl hin hun hall => ⟨Reg.wanted_none rfl,?_⟩,?_⟩
   ·have e9 : A.tmps[9]? = some (.pointer (some ⟨q,0,none⟩)) := hI.ev (i := 0) (d := 9) (by rfl) (hall ⟨0,.data⟩ (by simp) rfl);have HS := hI.st;have hX := HS.bel;have hb := (hX.block _ (jS HQ.out)).trans HQ.out;have y7 := jC hb 7;have hyl := jS hb;simp only [List.getElem?_toArray,List.getElem?_cons_zero,List.getElem?_cons_succ] at y7;clear hb;have HX := qhid hX;clear hI hX;unfold Reg.Yields
    go_simp
    exact ⟨gh,fun _ _ => rfl,rfl,HS.up (by decide) (by decide) (by intro g X Y hb h;exact h.up hb) (by intro g X Y hb h;exact below_kept hb h) (Below.refl _ _)⟩
   refine ⟨fun gh listed A X hI hcl hin hun hall => ⟨Reg.wanted_none rfl,?_⟩,?_⟩
   ·have e10 : A.tmps[10]? = some (.pointer (some ⟨q,0,none⟩)) := hI.ev (i := 1) (d := 10) (by rfl) (hall ⟨1,.data⟩ (by simp) rfl);have HS := hI.st;have hX := HS.bel;have hb := (hX.block _ (jS HQ.out)).trans HQ.out;have y7 := jC hb 7;have hyl := jS hb;simp only [List.getElem?_toArray,List.getElem?_cons_zero,List.getElem?_cons_succ] at y7;clear hb;have HX := qhid hX;clear hI hX;unfold Reg.Yields
    go_simp
    exact ⟨gh,fun _ _ => rfl,rfl,HS.up (by decide) (by decide) (by intro g X Y hb h;exact h.up hb) (by intro g X Y hb h;exact below_kept hb h) (Below.refl _ _)⟩
   refine ⟨fun gh listed A X hI hcl hin hun hall => ⟨Reg.wanted_none rfl,?_⟩,?_⟩
   ·have e11 : A.tmps[11]? = some (.pointer (some ⟨q,7,none⟩)) := hI.ev (i := 2) (d := 11) (by rfl) (hall ⟨2,.data⟩ (by simp) rfl);have HS := hI.st;have hX := HS.bel;have hb := (hX.block _ (jS HQ.out)).trans HQ.out;have y7 := jC hb 7;have hyl := jS hb;simp only [List.getElem?_toArray,List.getElem?_cons_zero,List.getElem?_cons_succ] at y7;clear hb;have HX := qhid hX;clear hI hX;unfold Reg.Yields
    go_simp
    exact ⟨gh,fun _ _ => rfl,rfl,HS.up (by decide) (by decide) (by intro g X Y hb h;exact h.up hb) (by intro g X Y hb h;exact below_kept hb h) (Below.refl _ _)⟩
   refine ⟨fun gh listed A X hI hcl hin hun hall => ⟨Reg.wanted_none rfl,?_⟩,?_⟩
   ·have e1 := hI.evo (d := 1) (by kernel_rfl) rfl;have HS := hI.st;have hX := HS.bel;have f := (hX.cell (p := ⟨nb,0,none⟩) HNL.out).trans HNB.out;have HX := qhid hX;clear hI hX;unfold Reg.Yields
    go_simp
    exact ⟨gh,fun _ _ => rfl,rfl,HS.up (by decide) (by decide) (by intro g X Y hb h;exact h.up hb) (by intro g X Y hb h;exact below_kept hb h) (Below.refl _ _)⟩
   refine ⟨fun gh listed A X hI hcl hin hun hall => ⟨Reg.wanted_none rfl,?_⟩,?_⟩
   ·have e13 : A.tmps[13]? = some (.pointer (some ⟨q,0,none⟩)) := hI.ev (i := 4) (d := 13) (by rfl) (hall ⟨4,.data⟩ (by simp) rfl);have HS := hI.st;have hX := HS.bel;have hb := (hX.block _ (jS HQ.out)).trans HQ.out;have y8 := jC hb 8;have hyl := jS hb;simp only [List.getElem?_toArray,List.getElem?_cons_zero,List.getElem?_cons_succ] at y8;clear hb;have HX := qhid hX;clear hI hX;unfold Reg.Yields
    go_simp
    exact ⟨gh,fun _ _ => rfl,rfl,HS.up (by decide) (by decide) (by intro g X Y hb h;exact h.up hb) (by intro g X Y hb h;exact below_kept hb h) (Below.refl _ _)⟩
   refine ⟨fun gh listed A X hI hcl hin hun hall => ⟨Reg.wanted_none rfl,?_⟩,?_⟩
   ·have e14 : A.tmps[14]? = some (.pointer (some ⟨q,0,none⟩)) := hI.ev (i := 5) (d := 14) (by rfl) (hall ⟨5,.data⟩ (by simp) rfl);have HS := hI.st;have hX := HS.bel;have hb := (hX.block _ (jS HQ.out)).trans HQ.out;have y8 := jC hb 8;have hyl := jS hb;simp only [List.getElem?_toArray,List.getElem?_cons_zero,List.getElem?_cons_succ] at y8;clear hb;have HX := qhid hX;clear hI hX;unfold Reg.Yields
    go_simp
    exact ⟨gh,fun _ _ => rfl,rfl,HS.up (by decide) (by decide) (by intro g X Y hb h;exact h.up hb) (by intro g X Y hb h;exact below_kept hb h) (Below.refl _ _)⟩
   refine ⟨fun gh listed A X hI hcl hin hun hall => ⟨Reg.wanted_none rfl,?_⟩,?_⟩
   ·have e15 : A.tmps[15]? = some (.pointer (some ⟨q,8,none⟩)) := hI.ev (i := 6) (d := 15) (by rfl) (hall ⟨6,.data⟩ (by simp) rfl);have HS := hI.st;have hX := HS.bel;have hb := (hX.block _ (jS HQ.out)).trans HQ.out;have y8 := jC hb 8;have hyl := jS hb;simp only [List.getElem?_toArray,List.getElem?_cons_zero,List.getElem?_cons_succ] at y8;clear hb;have HX := qhid hX;clear hI hX;unfold Reg.Yields
    go_simp
    exact ⟨gh,fun _ _ => rfl,rfl,HS.up (by decide) (by decide) (by intro g X Y hb h;exact h.up hb) (by intro g X Y hb h;exact below_kept hb h) (Below.refl _ _)⟩
   refine ⟨fun gh listed A X hI hcl hin hun hall => ⟨Reg.wanted_none rfl,?_⟩,?_⟩
   ·have e16 : A.tmps[16]? = some (.slice (some ⟨c,0,none⟩) 1 cap) := hI.ev (i := 7) (d := 16) (by rfl) (hall ⟨7,.data⟩ (by simp) rfl);have HS := hI.st;have hX := HS.bel;have HX := qhid hX;clear hI hX;unfold Reg.Yields
    go_simp
    exact ⟨gh,fun _ _ => rfl,rfl,HS.up (by decide) (by decide) (by intro g X Y hb h;exact h.up hb) (by intro g X Y hb h;exact below_kept hb h) (Below.refl _ _)⟩
   refine ⟨fun gh listed A X hI hcl hin hun hall => ⟨Reg.wanted_none rfl,?_⟩,?_⟩
   ·have e17 : A.tmps[17]? = some (.pointer (some ⟨c,0,none⟩)) := hI.ev (i := 8) (d := 17) (by rfl) (hall ⟨8,.data⟩ (by simp) rfl);have HS := hI.st;have hX := HS.bel;have f := (hX.cell (p := ⟨c,0,none⟩) HCL.out).trans HCC.out;have HX := qhid hX;clear hI hX;unfold Reg.Yields
    go_simp
    exact ⟨gh,fun _ _ => rfl,rfl,HS.up (by decide) (by decide) (by intro g X Y hb h;exact h.up hb) (by intro g X Y hb h;exact below_kept hb h) (Below.refl _ _)⟩
   refine ⟨fun gh listed A X hI hcl hin hun hall => ⟨Reg.wanted_none rfl,?_⟩,?_⟩
   ·have e18 : A.tmps[18]? = some (.pointer (some ⟨q2,0,none⟩)) := hI.ev (i := 9) (d := 18) (by rfl) (hall ⟨9,.data⟩ (by simp) rfl);have HS := hI.st;have hX := HS.bel;have HX := qhid hX;clear hI hX;unfold Reg.Yields
    go_simp
    exact (HB.out AA q2 X (HU.out.up HX.out)).mono fun e w2 h => by
     obtain ⟨v,he,hc,hb⟩ := h
     rcases hc.nil_iff with ⟨h,_⟩ | ⟨_,q3,rfl⟩
     ·exact absurd h HNE.out
     exact ⟨_,he,(q3,gh.2),fun j hj => t2T_a (j := j) (fun e => by rw [e] at hj;rw [hj] at hun;cases hun) (fun e => by rw [e] at hj;rw [Reg.closed_reach hcl 60 11 10 (by kernel_rfl) hj] at hun;cases hun),rfl,HS.first (by decide) (Reg.un_of_reach hcl (n := 12) (i := 10) (by kernel_rfl) (by simpa using hun)) hb hc⟩
   refine ⟨fun gh listed A X hI hcl hin hun hall => ⟨Reg.wanted_none rfl,?_⟩,?_⟩
   ·have e12 : A.tmps[12]? = some (.bool z) := hI.ev (i := 3) (d := 12) (by rfl) (hall ⟨3,.data⟩ (by simp) rfl);have e19 : A.tmps[19]? = some (.pointer (some ⟨gh.1,0,none⟩)) := hI.ev (i := 10) (d := 19) (by rfl) (hall ⟨10,.data⟩ (by simp) rfl);have HS := hI.st;have hX := HS.bel;have HX := qhid hX;clear hI hX;unfold Reg.Yields
    go_simp
    exact ⟨gh,fun _ _ => rfl,rfl,HS.up (by decide) (by decide) (by intro g X Y hb h;exact h.up hb) (by intro g X Y hb h;exact below_kept hb h) (Below.refl _ _)⟩
   refine ⟨fun gh listed A X hI hcl hin hun hall => ⟨Reg.wanted_none rfl,?_⟩,?_⟩
   ·have e20 : A.tmps[20]? = some (.agg #[.int .i64 4,.int .u64 0,.int .u64 0,.int .u64 0,.int .u64 0,.bool z,.pointer (some ⟨gh.1,0,none⟩),.pointer none]) := hI.ev (i := 11) (d := 20) (by rfl) (hall ⟨11,.data⟩ (by simp) rfl);have HS := hI.st;have hX := HS.bel;have HX := qhid hX;clear hI hX;unfold Reg.Yields
    go_simp
    exact ⟨(gh.1,X.heap.size),fun j hj => t2T_b (j := j) (fun e => by rw [e] at hj;rw [hj] at hun;cases hun) (fun e => by rw [e] at hj;rw [Reg.closed_reach hcl 60 13 12 (by kernel_rfl) hj] at hun;cases hun),rfl,HS.second (by decide) (by intro g X Y hb h;exact h.up hb) (fun _ h => h) (below1 _ _) (heap_new _ _)⟩
   refine ⟨fun gh listed A X hI hcl hin hun hall => ⟨Reg.wanted_none rfl,?_⟩,?_⟩
   ·have e21 : A.tmps[21]? = some (.pointer (some ⟨gh.2,0,none⟩)) := hI.ev (i := 12) (d := 21) (by rfl) (hall ⟨12,.data⟩ (by simp) rfl);have HS := hI.st;have hX := HS.bel;have HX := qhid hX;clear hI hX;unfold Reg.Yields
    go_simp
    exact ⟨gh,fun _ _ => rfl,rfl,HS.up (by decide) (by decide) (by intro g X Y hb h;exact h.up hb) (by intro g X Y hb h;exact below_kept hb h) (Below.refl _ _)⟩
   trivial
  ·intro gh X hS;have HX := qhid hS.bel;have H1 := qhid (hS.one (by rfl));have H2 := qhid (hS.two (by rfl));clear hS;simp [Reg.finalTmps,Reg.dstAt,Reg.valOf,t2T];have HF := qhid (HB1.out.trans (HX.out.mono HB1.out.size));have HN := qhid (CoAt.node 4 noW z _ _ _ _ _ H2.out H1.out .nil)
   go_wp2_with fail
   go_ret
   exact ⟨_,rfl,HN.out,HF.out⟩
 ·have hme : ((hi : Int) == -1) = false := by simpa using hm
  obtain ⟨g1,g2,g3⟩ : 0 <= lo /\ lo <= hi /\ hi <= 1000 := hh.resolve_left hm;obtain ⟨n,hn⟩ : ∃ n,n = (hi - lo).toNat := ⟨_,rfl⟩;have HN1 : Hid (n <= 1000) := qhid (by omega);have HWN : Hid (IntKind.i64.wrap (hi - lo) = (n : Int)) := qhid (by rw [IntKind.wrap_i64];omega);have HTC : Hid (tailC lo hi z (coreT u) = (List.replicate n (coreT u)).foldr (fun c b => choiceC z (joinC 2 c b)) .nil) := qhid (by unfold tailC;rw [if_neg hm,hn]);have HJO := qhid (cjoined_any 2 w1);obtain ⟨kb,hkb⟩ : ∃ kb,kb = w1.heap.size := ⟨_,rfl⟩;obtain ⟨w2,hw2⟩ : ∃ X,X = w1.alloc (.cells #[.int .i64 2] 3) := ⟨_,rfl⟩;obtain ⟨cb,hcb⟩ : ∃ cb,cb = w2.heap.size := ⟨_,rfl⟩;obtain ⟨w3,hw3⟩ : ∃ X,X = w2.alloc (.cells #[.func (.func 151) #[] #[.pointer (some ⟨kb,0,none⟩)]] 187) := ⟨_,rfl⟩;rw [<- hkb,<- hw2] at HJO;have b2 : Below w1.heap.size w1 w2 := by rw [hw2];exact below1 _ _
  have b3 : Below w1.heap.size w1 w3 := b2.trans (by rw [hw3];exact (below1 w2 _).mono b2.size);have k3 : w3.heap[kb]? = some (.cells #[.int .i64 2] 3) := by rw [hw3,hkb,hw2];exact below_kept (below1 _ _) (heap_new w1 _)
  have c3 : w3.heap[cb]? = some (.cells #[.func (.func 151) #[] #[.pointer (some ⟨kb,0,none⟩)]] 187) := by rw [hw3,hcb];exact heap_new w2 _
  have HQ := qhid (below_kept b3 HQ.out);have HNB := qhid ((b3.cell (p := ⟨nb,0,none⟩) HNL.out).trans HNB.out);have HNL := qhid (Nat.lt_of_lt_of_le HNL.out b3.size);have HND := qhid (HND.out.up b3);have HB3 := qhid (HB1.out.trans (b3.mono HB1.out.size))
  have HJC := qhid (fun (X : World) (hX : Below w3.heap.size w3 X) => (show JoinC 201 #[.pointer (some ⟨cb,0,none⟩),.pointer (some ⟨nb,0,none⟩)] (fun c b => choiceC z (joinC 2 c b)) X from fun Y hY c b vc vb _ hc hb =>
   ctail1_any cb kb nb q 6 noW lo hi z _ na nb' c b vc vb Y ((((hX.trans (hY.mono hX.size)).cell (p := ⟨cb,0,none⟩) (jS c3)).trans ((jC c3 0).trans rfl))) (Nat.lt_of_lt_of_le (jS c3) (hX.trans (hY.mono hX.size)).size) (below_kept (hX.trans (hY.mono hX.size)) k3)
    (((hX.trans (hY.mono hX.size)).cell (p := ⟨nb,0,none⟩) HNL.out).trans HNB.out) (Nat.lt_of_lt_of_le HNL.out (hX.trans (hY.mono hX.size)).size) (below_kept (hX.trans (hY.mono hX.size)) HQ.out) hc hb))
  have HCBE := qhid hcb;have HW3 := qhid hw3;clear hm hn hkb hw2 hcb hw3 b2 b3 k3 c3 g1 g2 g3 hh
  go_enter Tryz.func155,Tryz.ntmps155
  go_upto_region 1 with fail
  rw [<- HW1.out,<- HNBE.out]
  go_wp2_with fail
  refine HJO.out.mono ?_;rintro e wx ⟨rfl,hwx⟩;obtain rfl : w2 = wx := hwx.symm;clear y6 nb0 hyq HJO
  go_upto_region 4 with fail
  rw [<- HCBE.out,<- HW3.out];refine Reg.wp_region_H (t4T q lo hi n cb nb) (Reg.MkS w3 10 12 (fun g X => CosAt X g.1 (List.replicate n (coreT u))) (fun g X => CoAt X ((List.replicate n (coreT u)).foldr (fun c b => choiceC z (joinC 2 c b)) .nil) g.2)) (undef,undef) [0,1,2,3,4,5,6,7,8,9,10,11,12,13] (by rfl) (by kernel_rfl) (by kernel_rfl) ?_ ?_ ?_
  ·exact Reg.MkS.start _ _
  ·refine ⟨fun gh listed A X hI hcl hin hun hall => ⟨Reg.wanted_none rfl,?_⟩,?_⟩
   ·have e1 := hI.evo (d := 1) (by kernel_rfl) rfl;have HS := hI.st;have hX := HS.bel;have f := (hX.cell (p := ⟨nb,0,none⟩) HNL.out).trans HNB.out;have HX := qhid hX;clear hI hX;unfold Reg.Yields
    go_simp
    exact ⟨gh,fun _ _ => rfl,rfl,HS.up (by decide) (by decide) (by intro g X Y hb h;exact h.up hb) (by intro g X Y hb h;exact h.up hb) (Below.refl _ _)⟩
   refine ⟨fun gh listed A X hI hcl hin hun hall => ⟨Reg.wanted_none rfl,?_⟩,?_⟩
   ·have e1 := hI.evo (d := 1) (by kernel_rfl) rfl;have HS := hI.st;have hX := HS.bel;have f := (hX.cell (p := ⟨nb,0,none⟩) HNL.out).trans HNB.out;have HX := qhid hX;clear hI hX;unfold Reg.Yields
    go_simp
    exact ⟨gh,fun _ _ => rfl,rfl,HS.up (by decide) (by decide) (by intro g X Y hb h;exact h.up hb) (by intro g X Y hb h;exact h.up hb) (Below.refl _ _)⟩
   refine ⟨fun gh listed A X hI hcl hin hun hall => ⟨Reg.wanted_none rfl,?_⟩,?_⟩
   ·have e24 : A.tmps[24]? = some (.pointer (some ⟨q,0,none⟩)) := hI.ev (i := 1) (d := 24) (by rfl) (hall ⟨1,.data⟩ (by simp) rfl);have HS := hI.st;have hX := HS.bel;have hb := (hX.block _ (jS HQ.out)).trans HQ.out;have y6 := jC hb 6;have hyl := jS hb;simp only [List.getElem?_toArray,List.getElem?_cons_zero,List.getElem?_cons_succ] at y6;clear hb;have HX := qhid hX;clear hI hX;unfold Reg.Yields
    go_simp
    exact ⟨gh,fun _ _ => rfl,rfl,HS.up (by decide) (by decide) (by intro g X Y hb h;exact h.up hb) (by intro g X Y hb h;exact h.up hb) (Below.refl _ _)⟩
   refine ⟨fun gh listed A X hI hcl hin hun hall => ⟨Reg.wanted_none rfl,?_⟩,?_⟩
   ·have e25 : A.tmps[25]? = some (.pointer (some ⟨q,0,none⟩)) := hI.ev (i := 2) (d := 25) (by rfl) (hall ⟨2,.data⟩ (by simp) rfl);have HS := hI.st;have hX := HS.bel;have hb := (hX.block _ (jS HQ.out)).trans HQ.out;have y6 := jC hb 6;have hyl := jS hb;simp only [List.getElem?_toArray,List.getElem?_cons_zero,List.getElem?_cons_succ] at y6;clear hb;have HX := qhid hX;clear hI hX;unfold Reg.Yields
    go_simp
    exact ⟨gh,fun _ _ => rfl,rfl,HS.up (by decide) (by decide) (by intro g X Y hb h;exact h.up hb) (by intro g X Y hb h;exact h.up hb) (Below.refl _ _)⟩
   refine ⟨fun gh listed A X hI hcl hin hun hall => ⟨Reg.wanted_none rfl,?_⟩,?_⟩
   ·have e26 : A.tmps[26]? = some (.pointer (some ⟨q,6,none⟩)) := hI.ev (i := 3) (d := 26) (by rfl) (hall ⟨3,.data⟩ (by simp) rfl);have HS := hI.st;have hX := HS.bel;have hb := (hX.block _ (jS HQ.out)).trans HQ.out;have y6 := jC hb 6;have hyl := jS hb;simp only [List.getElem?_toArray,List.getElem?_cons_zero,List.getElem?_cons_succ] at y6;clear hb;have HX := qhid hX;clear hI hX;unfold Reg.Yields
    go_simp
    exact ⟨gh,fun _ _ => rfl,rfl,HS.up (by decide) (by decide) (by intro g X Y hb h;exact h.up hb) (by intro g X Y hb h;exact h.up hb) (Below.refl _ _)⟩
   refine ⟨fun gh listed A X hI hcl hin hun hall => ⟨Reg.wanted_none rfl,?_⟩,?_⟩
   ·have e1 := hI.evo (d := 1) (by kernel_rfl) rfl;have HS := hI.st;have hX := HS.bel;have f := (hX.cell (p := ⟨nb,0,none⟩) HNL.out).trans HNB.out;have HX := qhid hX;clear hI hX;unfold Reg.Yields
    go_simp
    exact ⟨gh,fun _ _ => rfl,rfl,HS.up (by decide) (by decide) (by intro g X Y hb h;exact h.up hb) (by intro g X Y hb h;exact h.up hb) (Below.refl _ _)⟩
   refine ⟨fun gh listed A X hI hcl hin hun hall => ⟨Reg.wanted_none rfl,?_⟩,?_⟩
   ·have e28 : A.tmps[28]? = some (.pointer (some ⟨q,0,none⟩)) := hI.ev (i := 5) (d := 28) (by rfl) (hall ⟨5,.data⟩ (by simp) rfl);have HS := hI.st;have hX := HS.bel;have hb := (hX.block _ (jS HQ.out)).trans HQ.out;have y5 := jC hb 5;have hyl := jS hb;simp only [List.getElem?_toArray,List.getElem?_cons_zero,List.getElem?_cons_succ] at y5;clear hb;have HX := qhid hX;clear hI hX;unfold Reg.Yields
    go_simp
    exact ⟨gh,fun _ _ => rfl,rfl,HS.up (by decide) (by decide) (by intro g X Y hb h;exact h.up hb) (by intro g X Y hb h;exact h.up hb) (Below.refl _ _)⟩
   refine ⟨fun gh listed A X hI hcl hin hun hall => ⟨Reg.wanted_none rfl,?_⟩,?_⟩
   ·have e29 : A.tmps[29]? = some (.pointer (some ⟨q,0,none⟩)) := hI.ev (i := 6) (d := 29) (by rfl) (hall ⟨6,.data⟩ (by simp) rfl);have HS := hI.st;have hX := HS.bel;have hb := (hX.block _ (jS HQ.out)).trans HQ.out;have y5 := jC hb 5;have hyl := jS hb;simp only [List.getElem?_toArray,List.getElem?_cons_zero,List.getElem?_cons_succ] at y5;clear hb;have HX := qhid hX;clear hI hX;unfold Reg.Yields
    go_simp
    exact ⟨gh,fun _ _ => rfl,rfl,HS.up (by decide) (by decide) (by intro g X Y hb h;exact h.up hb) (by intro g X Y hb h;exact h.up hb) (Below.refl _ _)⟩
   refine ⟨fun gh listed A X hI hcl hin hun hall => ⟨Reg.wanted_none rfl,?_⟩,?_⟩
   ·have e30 : A.tmps[30]? = some (.pointer (some ⟨q,5,none⟩)) := hI.ev (i := 7) (d := 30) (by rfl) (hall ⟨7,.data⟩ (by simp) rfl);have HS := hI.st;have hX := HS.bel;have hb := (hX.block _ (jS HQ.out)).trans HQ.out;have y5 := jC hb 5;have hyl := jS hb;simp only [List.getElem?_toArray,List.getElem?_cons_zero,List.getElem?_cons_succ] at y5;clear hb;have HX := qhid hX;clear hI hX;unfold Reg.Yields
    go_simp
    exact ⟨gh,fun _ _ => rfl,rfl,HS.up (by decide) (by decide) (by intro g X Y hb h;exact h.up hb) (by intro g X Y hb h;exact h.up hb) (Below.refl _ _)⟩
   refine ⟨fun gh listed A X hI hcl hin hun hall => ⟨Reg.wanted_none rfl,?_⟩,?_⟩
   ·have e27 : A.tmps[27]? = some (.int .i64 hi) := hI.ev (i := 4) (d := 27) (by rfl) (hall ⟨4,.data⟩ (by simp) rfl);have e31 : A.tmps[31]? = some (.int .i64 lo) := hI.ev (i := 8) (d := 31) (by rfl) (hall ⟨8,.data⟩ (by simp) rfl);have HS := hI.st;have hX := HS.bel;have wn := HWN.out;have HX := qhid hX;clear hI hX;unfold Reg.Yields
    go_simp
    exact ⟨gh,fun _ _ => rfl,rfl,HS.up (by decide) (by decide) (by intro g X Y hb h;exact h.up hb) (by intro g X Y hb h;exact h.up hb) (Below.refl _ _)⟩
   refine ⟨fun gh listed A X hI hcl hin hun hall => ⟨Reg.wanted_none rfl,?_⟩,?_⟩
   ·have e23 : A.tmps[23]? = some (.pointer (some ⟨q,0,none⟩)) := hI.ev (i := 0) (d := 23) (by rfl) (hall ⟨0,.data⟩ (by simp) rfl);have e32 : A.tmps[32]? = some (.int .i64 (n : Int)) := hI.ev (i := 9) (d := 32) (by rfl) (hall ⟨9,.data⟩ (by simp) rfl);have HS := hI.st;have hX := HS.bel;have HX := qhid hX;clear hI hX;unfold Reg.Yields
    go_simp
    exact (ccopies_any AA 6 noW lo hi z na nb' u q n X (HND.out.up HX.out) HN1.out HB.out HNE.out).mono fun e w2 h => by
     obtain ⟨v,he,hc,hb⟩ := h;exact ⟨_,he,(v,gh.2),fun j hj => t4T_a (j := j) (fun e => by rw [e] at hj;rw [hj] at hun;cases hun),rfl,HS.first (by decide) (Reg.un_of_reach hcl (n := 12) (i := 10) (by kernel_rfl) (by simpa using hun)) hb hc⟩
   refine ⟨fun gh listed A X hI hcl hin hun hall => ⟨Reg.wanted_none rfl,?_⟩,?_⟩
   ·have e1 := hI.evo (d := 1) (by kernel_rfl) rfl;have e3 := hI.evo (d := 3) (by kernel_rfl) rfl;have HS := hI.st;have hX := HS.bel;have HX := qhid hX;clear hI hX;unfold Reg.Yields
    go_simp
    exact ⟨gh,fun _ _ => rfl,rfl,HS.up (by decide) (by decide) (by intro g X Y hb h;exact h.up hb) (by intro g X Y hb h;exact h.up hb) (Below.refl _ _)⟩
   refine ⟨fun gh listed A X hI hcl hin hun hall => ⟨Reg.wanted_none rfl,?_⟩,?_⟩
   ·have e33 : A.tmps[33]? = some (gh.1) := hI.ev (i := 10) (d := 33) (by rfl) (hall ⟨10,.data⟩ (by simp) rfl);have e34 : A.tmps[34]? = some (.func (.func 201) #[] #[.pointer (some ⟨cb,0,none⟩),.pointer (some ⟨nb,0,none⟩)]) := hI.ev (i := 11) (d := 34) (by rfl) (hall ⟨11,.data⟩ (by simp) rfl);have HS := hI.st;have hX := HS.bel;have HX := qhid hX;clear hI hX;unfold Reg.Yields
    go_simp
    exact (cfold_any 201 #[.pointer (some ⟨cb,0,none⟩),.pointer (some ⟨nb,0,none⟩)] (fun c b => choiceC z (joinC 2 c b)) (List.replicate n (coreT u)) .nil gh.1 (.pointer none) X cf_tail1 (fun x hx => by rw [(List.mem_replicate.1 hx).2];exact HNE.out) (by rw [List.length_replicate];have := HN1.out;omega) (HS.one (hall ⟨10,.data⟩ (by simp) rfl)) .nil (HJC.out X HX.out)).mono fun e w2 h => by
     obtain ⟨v,he,hc,hb⟩ := h;exact ⟨_,he,(gh.1,v),fun j hj => t4T_b (j := j) (fun e => by rw [e] at hj;rw [hj] at hun;cases hun) (fun e => by rw [e] at hj;rw [Reg.closed_reach hcl 60 13 12 (by kernel_rfl) hj] at hun;cases hun),rfl,HS.second (by decide) (by intro g X Y hb h;exact h.up hb) (fun _ h => h) hb hc⟩
   refine ⟨fun gh listed A X hI hcl hin hun hall => ⟨Reg.wanted_none rfl,?_⟩,?_⟩
   ·have e35 : A.tmps[35]? = some (gh.2) := hI.ev (i := 12) (d := 35) (by rfl) (hall ⟨12,.data⟩ (by simp) rfl);have HS := hI.st;have hX := HS.bel;have HX := qhid hX;clear hI hX;unfold Reg.Yields
    go_simp
    exact ⟨gh,fun _ _ => rfl,rfl,HS.up (by decide) (by decide) (by intro g X Y hb h;exact h.up hb) (by intro g X Y hb h;exact h.up hb) (Below.refl _ _)⟩
   trivial
  ·intro gh X hS;have HX := qhid hS.bel;have H1 := qhid (hS.one (by rfl));have H2 := qhid (hS.two (by rfl));clear hS;simp [Reg.finalTmps,Reg.dstAt,Reg.valOf,t4T];have HF := qhid (HB3.out.trans (HX.out.mono HB3.out.size))
   go_wp2_with fail
   go_ret
   exact ⟨_,rfl,by rw [HTC.out];exact H2.out,HF.out⟩
end
end Go.Proofs.YtnmalggmbeipaaaGreatDoor
