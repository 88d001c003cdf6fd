/- A part of the proof. -/
import Derived.Test.YtlmcgbieobklhaaGreatDoorRgI
import Derived.Test.YtlmcgbieobklhaaGreatDoorRgT
import Derived.Test.YtlmcgbieobklhaaGreatDoorRgU
import Derived.Test.YtlmcgbieobklhaaGreatDoorRgV
import Derived.Test.YtlmcgbieobklhaaGreatDoorEs
set_option maxRecDepth 100000
set_option maxHeartbeats 16000000
namespace Go.Proofs.YtlmcgbieobklhaaGreatDoor
section
open Go Go.RowKit
attribute [local go_sem ↓] Go.wp_at_zero Go.wp_at_succ
attribute [local go_sem] eq4
theorem flatS_at : ∀ (L : List W4) (i : Nat) (x : W4),L[i]? = some x -> (flatS L)[i * 4]? = some (.int .u64 x.a) /\ (flatS L)[i * 4 + 1]? = some (.int .u64 x.b) /\ (flatS L)[i * 4 + 2]? = some (.int .u64 x.c) /\ (flatS L)[i * 4 + 3]? = some (.int .u64 x.d)
 | [],i,x,h => by simp at h
 | t :: l,0,x,h => by
  obtain rfl : t = x := by simpa using h
  exact ⟨rfl,rfl,rfl,rfl⟩
 | t :: l,i + 1,x,h => by
  obtain ⟨h0,h1,h2,h3⟩ := flatS_at l i x (by simpa using h);rw [show (i + 1) * 4 = i * 4 + 4 by omega];exact ⟨h0,h1,h2,h3⟩
theorem SetsOwn.read {B : Nat} {L : List W4} {v : Value} {w : World} (h : SetsOwn B L v w) : ∃ p cap,v = .slice p L.length cap /\ ∀ i x,L[i]? = some x ->
  ∃ g,p = some ⟨g,0,none⟩ /\ g < w.heap.size /\ w.cell? ⟨g,i * 4,none⟩ = some (.int .u64 x.a) /\ w.cell? ⟨g,i * 4 + 1,none⟩ = some (.int .u64 x.b) /\ w.cell? ⟨g,i * 4 + 2,none⟩ = some (.int .u64 x.c) /\ w.cell? ⟨g,i * 4 + 3,none⟩ = some (.int .u64 x.d) := by
 have hh := h
 rcases h.2 with ⟨rfl,h0⟩ | ⟨g,cap,cur,rfl,_,hg,_⟩
 ·have : L = [] := List.eq_nil_of_length_eq_zero h0;subst this;exact ⟨none,0,rfl,fun i x hx => by simp at hx⟩
 ·refine ⟨_,cap,rfl,fun i x hx => ⟨g,rfl,(Array.getElem?_eq_some_iff.1 hg).1,?_⟩⟩;have key : ∀ j u,(flatS L)[j]? = some u -> w.cell? ((⟨g,0,none⟩ : Addr).add j) = some u := hh.cells (g := g) rfl;have ha : ∀ j,(⟨g,0,none⟩ : Addr).add j = ⟨g,j,none⟩ := fun j => by unfold Addr.add;split <;> simp_all
  obtain ⟨k0,k1,k2,k3⟩ := flatS_at L i x hx;exact ⟨by rw [<- ha];exact key _ _ k0,by rw [<- ha];exact key _ _ k1,by rw [<- ha];exact key _ _ k2,by rw [<- ha];exact key _ _ k3⟩
def spT (a : Nat) (y : Value) (n1 n2 n3 : Int) : Nat -> Value
 | 0 => .pointer (some ⟨a,0,none⟩)
 | 1 => .int .i64 n1
 | 2 => y
 | 3 => .int .i64 n1
 | 4 => .bool true
 | 5 => .bool true
 | 6 => .pointer (some ⟨a,0,none⟩)
 | 7 => .int .i64 n2
 | 8 => y
 | 9 => .int .i64 n2
 | 10 => .bool true
 | 11 => .bool true
 | 12 => .bool true
 | 13 => .pointer (some ⟨a,0,none⟩)
 | 14 => .int .i64 n3
 | 15 => y
 | 16 => .int .i64 n3
 | 17 => .bool true
 | 18 => .bool true
 | 19 => .bool true
 | 20 => .pointer (some ⟨a,0,none⟩)
 | 21 => .bool true
 | 22 => .bool true
 | 23 => .bool true
 | 24 => .bool true
 | 25 => .bool true
 | 26 => .bool true
 | _ => undef
theorem sp_long (s : ByteArray) (hs : 300 < s.size) (w : World)
  (AW : ∀ X,Below w.heap.size w X -> Calls Tryz.prog 6 #[] X fun e w' => e = .returned (.bool true) /\ Below X.heap.size X w') :
  Calls Tryz.prog 3 #[.string s] w fun x w' => x = .returned (.bool true) /\ Below w.heap.size w w' := by
 have HAW := qhid AW;have h1 : decide ((300 : Int) < (s.size : Int)) = true := jT (by omega);have h2 : (300 : Int) < (s.size : Int) := by omega
 clear hs AW
 go_enter Tryz.func3,Tryz.ntmps3
 go_wp2_with fail
 refine (HAW.out w (Below.refl _ _)).mono ?_;rintro x w2 ⟨rfl,hb2⟩;have HB2 := qhid hb2;clear hb2
 go_wp2_with fail
 go_ret
 exact ⟨rfl,HB2.out⟩
theorem sp_bad (s : ByteArray) (e1 at1 : Int) (he1 : e1 ≠ 0) (hs : s.size <= 300) (w : World)
  (PA : Calls Tryz.prog 7 #[.string s] w fun x w' => ParseOut w w' (e1,at1,none) x)
  (RP : ∀ X,Calls Tryz.prog 8 #[.string s] X fun x w' => x = .returned (.tuple #[.agg #[.int .i64 0,.int .u64 0,.int .u64 0,.int .u64 0,.int .u64 0,.int .i64 0,.int .i64 0,.bool false,.slice none 0 0,.int .i64 0,.int .i64 0],.agg #[.int .i64 at1,.int .i64 e1]]) /\ Below X.heap.size X w')
  (AW : ∀ X,Below w.heap.size w X -> Calls Tryz.prog 6 #[] X fun e w' => e = .returned (.bool true) /\ Below X.heap.size X w') :
  Calls Tryz.prog 3 #[.string s] w fun x w' => x = .returned (.bool true) /\ Below w.heap.size w w' := by
 have HPA := qhid PA;have HRP := qhid RP;have HAW := qhid AW;have h1 : decide ((300 : Int) < (s.size : Int)) = false := jF (by omega);have h2 : (s.size : Int) <= 300 := by omega
 have u1 : ((e1 : Int) != 0) = true := by simpa using he1
 clear PA RP AW hs he1
 go_enter Tryz.func3,Tryz.ntmps3
 go_wp2_with fail
 refine HPA.out.mono ?_;rintro x w1 ⟨v,rfl,hv,hb⟩;have hv : v = .pointer none := hv;subst hv;have HB1 := qhid hb;clear hb HPA
 go_wp2_with fail
 refine (HRP.out w1).mono ?_;rintro x w2 ⟨rfl,hb⟩;obtain ⟨W3,hW⟩ : ∃ X,X = (w2.alloc (.cells #[.int .i64 0,.int .u64 0,.int .u64 0,.int .u64 0,.int .u64 0,.int .i64 0,.int .i64 0,.bool false,.slice none 0 0,.int .i64 0,.int .i64 0] 32)).alloc (.cells #[.int .i64 at1,.int .i64 e1] 34) := ⟨_,rfl⟩;have b3 : Below w2.heap.size w2 W3 := by rw [hW];exact below2 w2 _ _
 have HN : Hid (W3.heap[w2.heap.size]? = some (.cells #[.int .i64 0,.int .u64 0,.int .u64 0,.int .u64 0,.int .u64 0,.int .i64 0,.int .i64 0,.bool false,.slice none 0 0,.int .i64 0,.int .i64 0] 32)) := qhid (by rw [hW];exact below_kept (below1 _ _) (heap_new w2 (.cells #[.int .i64 0,.int .u64 0,.int .u64 0,.int .u64 0,.int .u64 0,.int .i64 0,.int .i64 0,.bool false,.slice none 0 0,.int .i64 0,.int .i64 0] 32)));have HF : Hid (W3.heap[w2.heap.size + 1]? = some (.cells #[.int .i64 at1,.int .i64 e1] 34)) := qhid (by have h := heap_new (w2.alloc (.cells #[.int .i64 0,.int .u64 0,.int .u64 0,.int .u64 0,.int .u64 0,.int .i64 0,.int .i64 0,.bool false,.slice none 0 0,.int .i64 0,.int .i64 0] 32)) (.cells #[.int .i64 at1,.int .i64 e1] 34);rw [World.size_alloc] at h;rw [hW];exact h);have hbx : Below w1.heap.size w1 W3 := hb.trans (b3.mono hb.size);have HB3 := qhid (HB1.out.trans (hbx.mono HB1.out.size));have c0 := jC HF.out 0;have c1 := jC HF.out 1;have hc := jS HF.out;simp only [Reg.la,Reg.lb,Reg.lc] at c0 c1
 go_upto_region 5 with fail
 change Code.wp _ _ _ _ ((w2.alloc (.cells #[.int .i64 0,.int .u64 0,.int .u64 0,.int .u64 0,.int .u64 0,.int .i64 0,.int .i64 0,.bool false,.slice none 0 0,.int .i64 0,.int .i64 0] 32)).alloc (.cells #[.int .i64 at1,.int .i64 e1] 34));rw [<- hW];clear hW hb b3 hbx HRP HB1
 go_wp2_with fail
 refine (HAW.out W3 HB3.out).mono ?_;rintro x w4 ⟨rfl,hb4⟩;have HB4 := qhid (HB3.out.trans (hb4.mono HB3.out.size));clear hb4 HAW
 go_wp2_with fail
 go_ret
 exact ⟨rfl,HB4.out⟩
def Sp_In_0 : Nat -> List (Nat × Nat)
 | 4 => [(85,2),(87,4)]
 | 5 => [(88,5)]
 | 11 => [(89,6),(94,11)]
 | 12 => [(95,12)]
 | 18 => [(96,13),(101,18)]
 | 19 => [(102,19)]
 | 22 => [(103,20),(105,22)]
 | 23 => [(106,23)]
 | 25 => [(107,24),(108,25)]
 | 26 => [(109,26)]
 | _ => []
theorem sp_good (s : ByteArray) (t : Tr) (L : List W4) (n1 n2 n3 : Int) (hs : s.size <= 300) (hL : L.length <= 1048577000) (w : World)
  (PA : Calls Tryz.prog 7 #[.string s] w fun x w' => ParseOut w w' (0,0,some t) x)
  (RP : ∀ X,Calls Tryz.prog 8 #[.string s] X fun e w' => ∃ lv,e = .returned (.tuple #[rnV t lv,.agg #[.int .i64 0,.int .i64 0]]) /\ RnAt w' (fun b => X.heap.size <= b) t lv /\ Below X.heap.size X w')
  (RS : ∀ X lv,RnAt X (fun _ => True) t lv -> Calls Tryz.prog 9 #[rnV t lv] X fun e w' => ∃ r,e = .returned r /\ SetsOwn X.heap.size L r w' /\ Below X.heap.size X w')
  (GS : ∀ X a,NdAt X (fun _ => True) t (ndPtr a) -> Calls Tryz.prog 10 #[ndPtr a] X fun e w' => ∃ r,e = .returned r /\ SetsOwn X.heap.size L r w' /\ Below X.heap.size X w')
  (UL : ∀ X a lv,NdAt X (fun _ => True) t (ndPtr a) -> RnAt X (fun _ => True) t lv -> Calls Tryz.prog 11 #[ndPtr a,rnV t lv] X fun e w' => e = .returned (.int .i64 0) /\ Below X.heap.size X w')
  (S1 : ∀ X a,NdAt X (fun _ => True) t (ndPtr a) -> Calls Tryz.prog 12 #[ndPtr a] X fun e w' => e = .returned (.int .i64 n1) /\ Below X.heap.size X w')
  (R1 : ∀ X lv,RnAt X (fun _ => True) t lv -> Calls Tryz.prog 13 #[rnV t lv] X fun e w' => e = .returned (.int .i64 n1) /\ Below X.heap.size X w')
  (S2 : ∀ X a,NdAt X (fun _ => True) t (ndPtr a) -> Calls Tryz.prog 14 #[ndPtr a] X fun e w' => e = .returned (.int .i64 n2) /\ Below X.heap.size X w')
  (Q2 : ∀ X lv,RnAt X (fun _ => True) t lv -> Calls Tryz.prog 15 #[rnV t lv,.int .i64 2] X fun e w' => e = .returned (.int .i64 n2) /\ Below X.heap.size X w')
  (S3 : ∀ X a,NdAt X (fun _ => True) t (ndPtr a) -> Calls Tryz.prog 16 #[ndPtr a] X fun e w' => e = .returned (.int .i64 n3) /\ Below X.heap.size X w')
  (Q3 : ∀ X lv,RnAt X (fun _ => True) t lv -> Calls Tryz.prog 17 #[rnV t lv] X fun e w' => e = .returned (.int .i64 n3) /\ Below X.heap.size X w')
  (S4 : ∀ X a,NdAt X (fun _ => True) t (ndPtr a) -> Calls Tryz.prog 18 #[ndPtr a] X fun e w' => e = .returned (.bool true) /\ Below X.heap.size X w')
  (AW : ∀ X,Below w.heap.size w X -> Calls Tryz.prog 6 #[] X fun e w' => e = .returned (.bool true) /\ Below X.heap.size X w') :
  Calls Tryz.prog 3 #[.string s] w fun x w' => x = .returned (.bool true) /\ Below w.heap.size w w' := by
 have HPA := qhid PA;have HRP := qhid RP;have HRS := qhid RS;have HGS := qhid GS;have HUL := qhid UL;have HS1 := qhid S1;have HR1 := qhid R1;have HS2 := qhid S2;have HQ2 := qhid Q2;have HS3 := qhid S3;have HQ3 := qhid Q3;have HS4 := qhid S4;have HAW := qhid AW;have h1 : decide ((300 : Int) < (s.size : Int)) = false := jF (by omega);have h2 : (s.size : Int) <= 300 := by omega
 have hL1 := hL;clear hs AW PA RP RS GS UL S1 R1 S2 Q2 S3 Q3 S4
 go_enter Tryz.func3,Tryz.ntmps3
 go_wp2_with fail
 refine HPA.out.mono ?_;rintro x w1 ⟨v,rfl,hv,hb⟩;have hv : NdAt w1 (fun b => w.heap.size <= b) t v := hv;obtain ⟨a,rfl⟩ := hv.pointer;have N1 := qhid (hv.mono (A' := fun _ => True) (fun _ _ _ => trivial));have HB1 := qhid hb;clear hb HPA hv
 go_wp2_with fail
 refine (HRP.out w1).mono ?_;rintro x w2 ⟨lv,hx,hrn,hb⟩;obtain ⟨k,s',tlo,thi,z,a',b',l⟩ := t;obtain ⟨pp,n,cp,rfl⟩ := hrn.slice;have hx : x = .returned (.tuple #[.agg #[.int .i64 k,.int .u64 s'.a,.int .u64 s'.b,.int .u64 s'.c,.int .u64 s'.d,.int .i64 tlo,.int .i64 thi,.bool z,.slice pp n cp,.int .i64 (a' : Int),.int .i64 (b' : Int)],.agg #[.int .i64 0,.int .i64 0]]) := hx;subst hx;have R2 := qhid (hrn.mono (A' := fun _ => True) (fun _ _ _ => trivial));obtain ⟨W3,hW⟩ : ∃ X,X = (w2.alloc (.cells #[.int .i64 k,.int .u64 s'.a,.int .u64 s'.b,.int .u64 s'.c,.int .u64 s'.d,.int .i64 tlo,.int .i64 thi,.bool z,.slice pp n cp,.int .i64 (a' : Int),.int .i64 (b' : Int)] 32)).alloc (.cells #[.int .i64 0,.int .i64 0] 34) := ⟨_,rfl⟩;have b3 : Below w2.heap.size w2 W3 := by rw [hW];exact below2 w2 _ _
 have HN : Hid (W3.heap[w2.heap.size]? = some (.cells #[.int .i64 k,.int .u64 s'.a,.int .u64 s'.b,.int .u64 s'.c,.int .u64 s'.d,.int .i64 tlo,.int .i64 thi,.bool z,.slice pp n cp,.int .i64 (a' : Int),.int .i64 (b' : Int)] 32)) := qhid (by rw [hW];exact below_kept (below1 _ _) (heap_new w2 (.cells #[.int .i64 k,.int .u64 s'.a,.int .u64 s'.b,.int .u64 s'.c,.int .u64 s'.d,.int .i64 tlo,.int .i64 thi,.bool z,.slice pp n cp,.int .i64 (a' : Int),.int .i64 (b' : Int)] 32)));have HF : Hid (W3.heap[w2.heap.size + 1]? = some (.cells #[.int .i64 0,.int .i64 0] 34)) := qhid (by have h := heap_new (w2.alloc (.cells #[.int .i64 k,.int .u64 s'.a,.int .u64 s'.b,.int .u64 s'.c,.int .u64 s'.d,.int .i64 tlo,.int .i64 thi,.bool z,.slice pp n cp,.int .i64 (a' : Int),.int .i64 (b' : Int)] 32)) (.cells #[.int .i64 0,.int .i64 0] 34);rw [World.size_alloc] at h;rw [hW];exact h);have hbx : Below w1.heap.size w1 W3 := hb.trans (b3.mono hb.size);have HB3 := qhid (HB1.out.trans (hbx.mono HB1.out.size));have N3 := qhid (N1.out.up hbx);have R3 := qhid (R2.out.up b3);have c0 := jC HF.out 0;have c1 := jC HF.out 1;have hc := jS HF.out;simp only [Reg.la,Reg.lb,Reg.lc] at c0 c1
 go_upto_region 5 with fail
 change Code.wp _ _ _ _ ((w2.alloc (.cells #[.int .i64 k,.int .u64 s'.a,.int .u64 s'.b,.int .u64 s'.c,.int .u64 s'.d,.int .i64 tlo,.int .i64 thi,.bool z,.slice pp n cp,.int .i64 (a' : Int),.int .i64 (b' : Int)] 32)).alloc (.cells #[.int .i64 0,.int .i64 0] 34));rw [<- hW];clear hW hb b3 hbx HRP HB1 hrn N1 R2;have v0 := jC HN.out 0;have v1 := jC HN.out 1;have v2 := jC HN.out 2;have v3 := jC HN.out 3;have v4 := jC HN.out 4;have v5 := jC HN.out 5;have v6 := jC HN.out 6;have v7 := jC HN.out 7;have v8 := jC HN.out 8;have v9 := jC HN.out 9;have v10 := jC HN.out 10;have hyl := jS HN.out;simp only [Reg.la,Reg.lb,Reg.lc] at v0 v1 v2 v3 v4 v5 v6 v7 v8 v9 v10
 go_wp2_with fail
 refine (HRS.out W3 _ R3.out).mono ?_;rintro x w4 ⟨r1,rfl,hr1,hb⟩;have HB4 := qhid (HB3.out.trans (hb.mono HB3.out.size));have N4 := qhid (N3.out.up hb);have R4 := qhid (R3.out.up hb);have HN4 := qhid (below_kept hb HN.out);have HG4 := qhid hr1;clear hb hr1 HB3 N3 R3 HN HF c0 c1 hc hyl HRS v0 v1 v2 v3 v4 v5 v6 v7 v8 v9 v10
 go_wp2_with fail
 refine (HGS.out w4 a N4.out).mono ?_;rintro x w5 ⟨r2,rfl,hr2,hb⟩;have HB5 := qhid (HB4.out.trans (hb.mono HB4.out.size));have N5 := qhid (N4.out.up hb);have R5 := qhid (R4.out.up hb);have HN5 := qhid (below_kept hb HN4.out);have HG5 := qhid (HG4.out.below hb);have HK5 := qhid hr2;clear hb hr2 HB4 N4 R4 HN4 HG4 HGS;obtain ⟨p1,c1,rfl,_⟩ := HG5.out.read;obtain ⟨p2,c2,rfl,_⟩ := HK5.out.read;have v0 := jC HN5.out 0;have v1 := jC HN5.out 1;have v2 := jC HN5.out 2;have v3 := jC HN5.out 3;have v4 := jC HN5.out 4;have v5 := jC HN5.out 5;have v6 := jC HN5.out 6;have v7 := jC HN5.out 7;have v8 := jC HN5.out 8;have v9 := jC HN5.out 9;have v10 := jC HN5.out 10;have hyl := jS HN5.out;simp only [Reg.la,Reg.lb,Reg.lc] at v0 v1 v2 v3 v4 v5 v6 v7 v8 v9 v10
 go_wp2_with fail
 refine (HUL.out w5 a _ N5.out R5.out).mono ?_;rintro x W6 ⟨rfl,hb⟩;have HB6a := qhid (HB5.out.trans (hb.mono HB5.out.size));have N6a := qhid (N5.out.up hb);have R6a := qhid (R5.out.up hb);have HN6a := qhid (below_kept hb HN5.out);have HG6 := qhid (HG5.out.below hb);have HK6 := qhid (HK5.out.below hb);clear hb HB5 N5 R5 HN5 HG5 HK5 HUL hyl v0 v1 v2 v3 v4 v5 v6 v7 v8 v9 v10
 go_wp2_with fail
 go_loopw [10] (fun iv wr => ∃ i j : Nat,i <= L.length /\ iv = .int .i64 (i : Int) /\ Hid (wr = W6.drewN j)) (fun iv _ => L.length - (intOf iv).toNat)
 case atStart => exact ⟨0,0,by omega,rfl,qhid rfl⟩
 case round =>
  obtain ⟨i,j,hi,rfl,HW⟩ := hrel
  by_cases hlt : i < L.length
  ·obtain ⟨x,hx⟩ : ∃ x,L[i]? = some x := ⟨_,List.getElem?_eq_getElem hlt⟩;obtain ⟨_,_,e1,q1⟩ := HG6.out.read;obtain ⟨_,_,e2,q2⟩ := HK6.out.read;injection e1 with e1 _ e1c;injection e2 with e2 _ e2c;subst e1 e2 e1c e2c;obtain ⟨g1,rfl,hg1,y0,y1,y2,y3⟩ := q1 i x hx;obtain ⟨g2,rfl,hg2,z0,z1,z2,z3⟩ := q2 i x hx;have Y := qhid (And.intro y0 (And.intro y1 (And.intro y2 (And.intro y3 (And.intro z0 (And.intro z1 (And.intro z2 z3)))))));clear q1 q2 hx y0 y1 y2 y3 z0 z1 z2 z3;obtain ⟨y0,y1,y2,y3,z0,z1,z2,z3⟩ := (show wr.cell? ⟨g1,i * 4,none⟩ = some (.int .u64 x.a) /\ wr.cell? ⟨g1,i * 4 + 1,none⟩ = some (.int .u64 x.b) /\ wr.cell? ⟨g1,i * 4 + 2,none⟩ = some (.int .u64 x.c) /\ wr.cell? ⟨g1,i * 4 + 3,none⟩ = some (.int .u64 x.d) /\ wr.cell? ⟨g2,i * 4,none⟩ = some (.int .u64 x.a) /\ wr.cell? ⟨g2,i * 4 + 1,none⟩ = some (.int .u64 x.b) /\ wr.cell? ⟨g2,i * 4 + 2,none⟩ = some (.int .u64 x.c) /\ wr.cell? ⟨g2,i * 4 + 3,none⟩ = some (.int .u64 x.d) by rw [HW.out];simpa using Y.out);have hlt2 : (i : Int) < (L.length : Int) := by omega
   go_wp2_with fail
   go_quiet (fail)
   go_wp2_with fail
   go_roundw
   case rel => exact ⟨i + 1,j + nq,by omega,by go_num,qhid (by rw [HW.out];simp [World.drewN,Nat.add_assoc])⟩
   case measure => simp [intOf];omega
  ·obtain rfl : i = L.length := by omega
   have HB6 : Hid (Below w.heap.size w wr) := qhid (by rw [HW.out];exact below_drewN HB6a.out _);have hwr : Below W6.heap.size W6 wr := by rw [HW.out];exact below_drewN (Below.refl _ _) _
   have N6 := qhid (N6a.out.up hwr);have R6 := qhid (R6a.out.up hwr);have HN6 := qhid (below_kept hwr HN6a.out);clear hwr HW HB6a N6a R6a HN6a HG6 HK6 hlt
   go_upto_region 16 with fail
   obtain ⟨WR,rfl⟩ : ∃ X,X = wr := ⟨_,rfl⟩;refine Reg.wp_region_C (spT a (.agg #[.int .i64 k,.int .u64 s'.a,.int .u64 s'.b,.int .u64 s'.c,.int .u64 s'.d,.int .i64 tlo,.int .i64 thi,.bool z,.slice pp n cp,.int .i64 (a' : Int),.int .i64 (b' : Int)]) n1 n2 n3) (fun _ X => Below WR.heap.size WR X) [0,1,2,3,4,5,6,7,8,9,10,11,12,13,14,15,16,17,18,19,20,21,22,23,24,25,26] (by rfl) (by kernel_rfl) (by kernel_rfl) ?_ ?_ ?_
   ·exact Below.drew (Below.refl _ _)
   ·refine Reg.oC (fun listed A X hI hcl hin hun hall _ => ?_) ?_
    ·have e3 := hI.wo 3 rfl;have hX : Below WR.heap.size WR X := hI.st;have HX := qhid hX;clear hI hall hX hcl
     go_simp
     first | rfl | exact ⟨rfl,HX.out⟩ | (refine ⟨?_,HX.out⟩;simp [spT];done) | (refine ⟨?_,HX.out⟩;simp [spT];assumption)
    refine Reg.oC (fun listed A X hI hcl hin hun hall _ => ?_) ?_
    ·have e84 : A.tmps[84]? = some (.pointer (some ⟨a,0,none⟩)) := hI.v hall 0 84;have hX : Below WR.heap.size WR X := hI.st;have HX := qhid hX;clear hI hall hX hcl
     go_simp
     exact (HS1.out X a (N6.out.up HX.out)).mono fun e w'' ⟨he,hb⟩ => ⟨_,he,rfl,HX.out.trans (hb.mono HX.out.size)⟩
    refine Reg.oC (fun listed A X hI hcl hin hun hall _ => ?_) ?_
    ·have e6 := hI.wo 6 rfl;have hX : Below WR.heap.size WR X := hI.st;have hb := (hX.block _ (jS HN6.out)).trans HN6.out;have v0 := jC hb 0;have v1 := jC hb 1;have v2 := jC hb 2;have v3 := jC hb 3;have v4 := jC hb 4;have v5 := jC hb 5;have v6 := jC hb 6;have v7 := jC hb 7;have v8 := jC hb 8;have v9 := jC hb 9;have v10 := jC hb 10;have hyl := jS hb;simp only [Reg.la,Reg.lb,Reg.lc] at v0 v1 v2 v3 v4 v5 v6 v7 v8 v9 v10;clear hb;have HX := qhid hX;clear hI hall hX hcl
     go_simp
     first | rfl | exact ⟨rfl,HX.out⟩ | (refine ⟨?_,HX.out⟩;simp [spT];done) | (refine ⟨?_,HX.out⟩;simp [spT];assumption)
    refine Reg.oC (fun listed A X hI hcl hin hun hall _ => ?_) ?_
    ·have e86 : A.tmps[86]? = some (.agg #[.int .i64 k,.int .u64 s'.a,.int .u64 s'.b,.int .u64 s'.c,.int .u64 s'.d,.int .i64 tlo,.int .i64 thi,.bool z,.slice pp n cp,.int .i64 (a' : Int),.int .i64 (b' : Int)]) := hI.v hall 2 86;have hX : Below WR.heap.size WR X := hI.st;have HX := qhid hX;clear hI hall hX hcl
     go_simp
     exact (HR1.out X _ (R6.out.up HX.out)).mono fun e w'' ⟨he,hb⟩ => ⟨_,he,rfl,HX.out.trans (hb.mono HX.out.size)⟩
    iterate 2
     refine Reg.oC (fun listed A X hI hcl hin hun hall _ => ?_) ?_
     ·have E := hI.tf hun hall Sp_In_0;simp only [Reg.TF,Sp_In_0,spT] at E;have hX : Below WR.heap.size WR X := hI.st;have HX := qhid hX;clear hI hall hX hcl
      go_simp
      first | rfl | exact ⟨rfl,HX.out⟩ | (refine ⟨?_,HX.out⟩;simp [spT];done) | (refine ⟨?_,HX.out⟩;simp [spT];assumption)
    refine ⟨fun listed A X hI hcl hin hun hall => .inl ⟨(Reg.ws hI hall 5 89 true).trans rfl,?_⟩,?_⟩
    ·have e3 := hI.wo 3 rfl;have hX : Below WR.heap.size WR X := hI.st;have HX := qhid hX;clear hI hall hX hcl;unfold Reg.Yields
     go_simp
     first | rfl | exact ⟨rfl,HX.out⟩ | (refine ⟨?_,HX.out⟩;simp [spT];done) | (refine ⟨?_,HX.out⟩;simp [spT];assumption)
    refine ⟨fun listed A X hI hcl hin hun hall => .inl ⟨(Reg.ws hI hall 5 89 true).trans rfl,?_⟩,?_⟩
    ·have e90 : A.tmps[90]? = some (.pointer (some ⟨a,0,none⟩)) := hI.v hall 6 90;have hX : Below WR.heap.size WR X := hI.st;have HX := qhid hX;clear hI hall hX hcl;unfold Reg.Yields
     go_simp
     exact (HS2.out X a (N6.out.up HX.out)).mono fun e w'' ⟨he,hb⟩ => ⟨_,he,rfl,HX.out.trans (hb.mono HX.out.size)⟩
    refine ⟨fun listed A X hI hcl hin hun hall => .inl ⟨(Reg.ws hI hall 5 89 true).trans rfl,?_⟩,?_⟩
    ·have e6 := hI.wo 6 rfl;have hX : Below WR.heap.size WR X := hI.st;have hb := (hX.block _ (jS HN6.out)).trans HN6.out;have v0 := jC hb 0;have v1 := jC hb 1;have v2 := jC hb 2;have v3 := jC hb 3;have v4 := jC hb 4;have v5 := jC hb 5;have v6 := jC hb 6;have v7 := jC hb 7;have v8 := jC hb 8;have v9 := jC hb 9;have v10 := jC hb 10;have hyl := jS hb;simp only [Reg.la,Reg.lb,Reg.lc] at v0 v1 v2 v3 v4 v5 v6 v7 v8 v9 v10;clear hb;have HX := qhid hX;clear hI hall hX hcl;unfold Reg.Yields
     go_simp
     first | rfl | exact ⟨rfl,HX.out⟩ | (refine ⟨?_,HX.out⟩;simp [spT];done) | (refine ⟨?_,HX.out⟩;simp [spT];assumption)
    refine ⟨fun listed A X hI hcl hin hun hall => .inl ⟨(Reg.ws hI hall 5 89 true).trans rfl,?_⟩,?_⟩
    ·have e92 : A.tmps[92]? = some (.agg #[.int .i64 k,.int .u64 s'.a,.int .u64 s'.b,.int .u64 s'.c,.int .u64 s'.d,.int .i64 tlo,.int .i64 thi,.bool z,.slice pp n cp,.int .i64 (a' : Int),.int .i64 (b' : Int)]) := hI.v hall 8 92;have hX : Below WR.heap.size WR X := hI.st;have HX := qhid hX;clear hI hall hX hcl;unfold Reg.Yields
     go_simp
     exact (HQ2.out X _ (R6.out.up HX.out)).mono fun e w'' ⟨he,hb⟩ => ⟨_,he,rfl,HX.out.trans (hb.mono HX.out.size)⟩
    refine ⟨fun listed A X hI hcl hin hun hall => .inl ⟨(Reg.ws hI hall 5 89 true).trans rfl,?_⟩,?_⟩
    ·have e91 : A.tmps[91]? = some (.int .i64 n2) := hI.v hall 7 91;have e93 : A.tmps[93]? = some (.int .i64 n2) := hI.v hall 9 93;have hX : Below WR.heap.size WR X := hI.st;have HX := qhid hX;clear hI hall hX hcl;unfold Reg.Yields
     go_simp
     first | rfl | exact ⟨rfl,HX.out⟩ | (refine ⟨?_,HX.out⟩;simp [spT];done) | (refine ⟨?_,HX.out⟩;simp [spT];assumption)
    iterate 2
     refine Reg.oC (fun listed A X hI hcl hin hun hall _ => ?_) ?_
     ·have E := hI.tf hun hall Sp_In_0;simp only [Reg.TF,Sp_In_0,spT] at E;have hX : Below WR.heap.size WR X := hI.st;have HX := qhid hX;clear hI hall hX hcl
      go_simp
      first | rfl | exact ⟨rfl,HX.out⟩ | (refine ⟨?_,HX.out⟩;simp [spT];done) | (refine ⟨?_,HX.out⟩;simp [spT];assumption)
    refine ⟨fun listed A X hI hcl hin hun hall => .inl ⟨(Reg.ws hI hall 12 96 true).trans rfl,?_⟩,?_⟩
    ·have e3 := hI.wo 3 rfl;have hX : Below WR.heap.size WR X := hI.st;have HX := qhid hX;clear hI hall hX hcl;unfold Reg.Yields
     go_simp
     first | rfl | exact ⟨rfl,HX.out⟩ | (refine ⟨?_,HX.out⟩;simp [spT];done) | (refine ⟨?_,HX.out⟩;simp [spT];assumption)
    refine ⟨fun listed A X hI hcl hin hun hall => .inl ⟨(Reg.ws hI hall 12 96 true).trans rfl,?_⟩,?_⟩
    ·have e97 : A.tmps[97]? = some (.pointer (some ⟨a,0,none⟩)) := hI.v hall 13 97;have hX : Below WR.heap.size WR X := hI.st;have HX := qhid hX;clear hI hall hX hcl;unfold Reg.Yields
     go_simp
     exact (HS3.out X a (N6.out.up HX.out)).mono fun e w'' ⟨he,hb⟩ => ⟨_,he,rfl,HX.out.trans (hb.mono HX.out.size)⟩
    refine ⟨fun listed A X hI hcl hin hun hall => .inl ⟨(Reg.ws hI hall 12 96 true).trans rfl,?_⟩,?_⟩
    ·have e6 := hI.wo 6 rfl;have hX : Below WR.heap.size WR X := hI.st;have hb := (hX.block _ (jS HN6.out)).trans HN6.out;have v0 := jC hb 0;have v1 := jC hb 1;have v2 := jC hb 2;have v3 := jC hb 3;have v4 := jC hb 4;have v5 := jC hb 5;have v6 := jC hb 6;have v7 := jC hb 7;have v8 := jC hb 8;have v9 := jC hb 9;have v10 := jC hb 10;have hyl := jS hb;simp only [Reg.la,Reg.lb,Reg.lc] at v0 v1 v2 v3 v4 v5 v6 v7 v8 v9 v10;clear hb;have HX := qhid hX;clear hI hall hX hcl;unfold Reg.Yields
     go_simp
     first | rfl | exact ⟨rfl,HX.out⟩ | (refine ⟨?_,HX.out⟩;simp [spT];done) | (refine ⟨?_,HX.out⟩;simp [spT];assumption)
    refine ⟨fun listed A X hI hcl hin hun hall => .inl ⟨(Reg.ws hI hall 12 96 true).trans rfl,?_⟩,?_⟩
    ·have e99 : A.tmps[99]? = some (.agg #[.int .i64 k,.int .u64 s'.a,.int .u64 s'.b,.int .u64 s'.c,.int .u64 s'.d,.int .i64 tlo,.int .i64 thi,.bool z,.slice pp n cp,.int .i64 (a' : Int),.int .i64 (b' : Int)]) := hI.v hall 15 99;have hX : Below WR.heap.size WR X := hI.st;have HX := qhid hX;clear hI hall hX hcl;unfold Reg.Yields
     go_simp
     exact (HQ3.out X _ (R6.out.up HX.out)).mono fun e w'' ⟨he,hb⟩ => ⟨_,he,rfl,HX.out.trans (hb.mono HX.out.size)⟩
    refine ⟨fun listed A X hI hcl hin hun hall => .inl ⟨(Reg.ws hI hall 12 96 true).trans rfl,?_⟩,?_⟩
    ·have e98 : A.tmps[98]? = some (.int .i64 n3) := hI.v hall 14 98;have e100 : A.tmps[100]? = some (.int .i64 n3) := hI.v hall 16 100;have hX : Below WR.heap.size WR X := hI.st;have HX := qhid hX;clear hI hall hX hcl;unfold Reg.Yields
     go_simp
     first | rfl | exact ⟨rfl,HX.out⟩ | (refine ⟨?_,HX.out⟩;simp [spT];done) | (refine ⟨?_,HX.out⟩;simp [spT];assumption)
    iterate 2
     refine Reg.oC (fun listed A X hI hcl hin hun hall _ => ?_) ?_
     ·have E := hI.tf hun hall Sp_In_0;simp only [Reg.TF,Sp_In_0,spT] at E;have hX : Below WR.heap.size WR X := hI.st;have HX := qhid hX;clear hI hall hX hcl
      go_simp
      first | rfl | exact ⟨rfl,HX.out⟩ | (refine ⟨?_,HX.out⟩;simp [spT];done) | (refine ⟨?_,HX.out⟩;simp [spT];assumption)
    refine ⟨fun listed A X hI hcl hin hun hall => .inl ⟨(Reg.ws hI hall 19 103 true).trans rfl,?_⟩,?_⟩
    ·have e3 := hI.wo 3 rfl;have hX : Below WR.heap.size WR X := hI.st;have HX := qhid hX;clear hI hall hX hcl;unfold Reg.Yields
     go_simp
     first | rfl | exact ⟨rfl,HX.out⟩ | (refine ⟨?_,HX.out⟩;simp [spT];done) | (refine ⟨?_,HX.out⟩;simp [spT];assumption)
    refine ⟨fun listed A X hI hcl hin hun hall => .inl ⟨(Reg.ws hI hall 19 103 true).trans rfl,?_⟩,?_⟩
    ·have e104 : A.tmps[104]? = some (.pointer (some ⟨a,0,none⟩)) := hI.v hall 20 104;have hX : Below WR.heap.size WR X := hI.st;have HX := qhid hX;clear hI hall hX hcl;unfold Reg.Yields
     go_simp
     exact (HS4.out X a (N6.out.up HX.out)).mono fun e w'' ⟨he,hb⟩ => ⟨_,he,rfl,HX.out.trans (hb.mono HX.out.size)⟩
    iterate 2
     refine Reg.oC (fun listed A X hI hcl hin hun hall _ => ?_) ?_
     ·have E := hI.tf hun hall Sp_In_0;simp only [Reg.TF,Sp_In_0,spT] at E;have hX : Below WR.heap.size WR X := hI.st;have HX := qhid hX;clear hI hall hX hcl
      go_simp
      first | rfl | exact ⟨rfl,HX.out⟩ | (refine ⟨?_,HX.out⟩;simp [spT];done) | (refine ⟨?_,HX.out⟩;simp [spT];assumption)
    refine ⟨fun listed A X hI hcl hin hun hall => .inl ⟨(Reg.ws hI hall 23 107 true).trans rfl,?_⟩,?_⟩
    ·have hX : Below WR.heap.size WR X := hI.st;have HX := qhid hX;clear hI hall hX hcl;unfold Reg.Yields
     go_simp
     exact (HAW.out X (HB6.out.trans (HX.out.mono HB6.out.size))).mono fun e w'' ⟨he,hb⟩ => ⟨_,he,rfl,HX.out.trans (hb.mono HX.out.size)⟩
    iterate 2
     refine Reg.oC (fun listed A X hI hcl hin hun hall _ => ?_) ?_
     ·have E := hI.tf hun hall Sp_In_0;simp only [Reg.TF,Sp_In_0,spT] at E;have hX : Below WR.heap.size WR X := hI.st;have HX := qhid hX;clear hI hall hX hcl
      go_simp
      first | rfl | exact ⟨rfl,HX.out⟩ | (refine ⟨?_,HX.out⟩;simp [spT];done) | (refine ⟨?_,HX.out⟩;simp [spT];assumption)
    trivial
   ·intro X hS;have HX := qhid hS;clear hS;simp [Reg.finalTmps,Reg.dstAt,Reg.valOf,spT];have HBX := qhid (HB6.out.trans (HX.out.mono HB6.out.size))
    go_wp2_with fail
    go_ret
    exact ⟨rfl,HBX.out⟩
theorem parselaw_any (s : ByteArray) (w : World) (hT : Tab w) :
  Calls Tryz.prog 3 #[.string s] w fun x w' => x = .returned (.bool true) /\ Below w.heap.size w w' := by
 have AW := fun X (hX : Below w.heap.size w X) => syn_awake X (hT.up hX)
 by_cases hs : 300 < s.size
 ·exact sp_long s hs w AW
 have hs : s.size <= 300 := by omega
 have PA := parse_any s (by omega) w hT
 rcases parseR_cases s with ⟨t,ht⟩ | ⟨e,at_,he,hne⟩
 ·rw [ht] at PA;have ok := parse_ok (by omega) ht;have hz := sets_le t
  have hb : trSize t <= 1048577000 := by
   obtain ⟨h1,h2,h3⟩ := parse_right ht;have hl := scan_len' s;have := (rt_sizes h1).2.2;rw [h3] at this;unfold mt at this;rw [List.length_map] at this;omega
  exact sp_good s t (setsT t) (trSize t : Nat) (foldR (cntN groupsN) t) (foldR deepR t) hs (by omega) w PA (fun X => rparse_ok s t (by omega) ht X)
   (fun X lv h => rsets_any (trSize t) t _ lv X (jN _) hb h) (fun X a h => ssets_any _ t a X h hb) (fun X a lv h h' => unlike_any (trSize t) t _ _ a lv X (jN _) (by omega) h h')
   (fun X a h => ssize_any _ t a X h (by omega)) (fun X lv h => by have := rsize_any (trSize t) t _ lv X (jN _) (by omega) h;rw [size_is t (trSize t) t (jN _)] at this;exact this)
   (fun X a h => sgroups_any _ t a X h (by omega)) (fun X lv h => rcount_any (trSize t) t _ lv X (jN _) (by omega) h)
   (fun X a h => sdeep_any _ t a X h (by omega)) (fun X lv h => rdeep_any (trSize t) t _ lv X (jN _) (by omega) h)
   (fun X a h => by have := sright_any _ t a X h (by omega);rwa [jT ok.right] at this) AW
 ·rw [he] at PA;exact sp_bad s e at_ hne hs w PA (fun X => rparse_bad s e at_ hne (by omega) he X) AW
end
end Go.Proofs.YtlmcgbieobklhaaGreatDoor
