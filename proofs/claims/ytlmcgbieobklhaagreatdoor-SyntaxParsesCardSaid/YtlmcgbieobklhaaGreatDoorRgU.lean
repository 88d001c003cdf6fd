/- A part of the proof. -/
import Derived.Test.YtlmcgbieobklhaaGreatDoorRgD
set_option maxRecDepth 100000
set_option maxHeartbeats 16000000
namespace Go.Proofs.YtlmcgbieobklhaaGreatDoor.Reg
open Go Go.RowKit
theorem evc {ops : Array Oper} {told : Nat -> Value} {S : Array Bool -> World -> Prop} {a0 : Act} {listed : Array Bool} {A : Act} {w : World} (h : InvS ops told S a0 listed A w) (hcl : ClosedL ops listed) {k d : Nat} {x : Value} (hun : listed.getD k false = false)
  (hno : ((List.range ops.size).all fun i => dstAt ops i != some d || reach ops 30 i k) = true) (h0 : a0.tmps[d]? = some x) : A.tmps[d]? = some x := by
 rw [h.old d fun i o ho hl e => ?_]
 ·exact h0
 ·have hi : i < ops.size := (Array.getElem?_eq_some_iff.1 ho).1;have h1 := List.all_eq_true.1 hno i (List.mem_range.2 hi);rw [Bool.or_eq_true] at h1
  rcases h1 with h1 | h1
  ·rw [dstAt_of ho,e] at h1;simp at h1
  ·rw [closed_reach hcl 30 i k h1 hl] at hun;cases hun
end Go.Proofs.YtlmcgbieobklhaaGreatDoor.Reg
namespace Go.Proofs.YtlmcgbieobklhaaGreatDoor
section
open Go Go.RowKit
attribute [local go_sem ↓] Go.wp_at_zero Go.wp_at_succ
attribute [local go_sem] eq4
theorem eq2 (a b x y : Int) (w : World) : (Op.equalIn 10000 59 (.agg #[.int .i64 a,.int .i64 b]) (.agg #[.int .i64 x,.int .i64 y])).run Tryz.prog w = .ok (a == x && b == y) w := by
 have u3 := Tryz.underlying3;have a3 := Tryz.isAgg3;have z3 := Tryz.sizeOf3;rw [show (10000 : Nat) = 9999 + 1 from rfl,Op.equalIn];simp only [Sem.run_bind,run_underlying Tryz.underlying59,Result.andThen_ok];simp only [Std.Legacy.Range.forIn_eq_forIn_range',Std.Legacy.Range.size,Nat.sub_zero,Nat.add_sub_cancel,Nat.div_one,List.range'_succ,List.range'_zero,List.forIn_cons,List.forIn_nil]
 go_simp
 by_cases h1 : a = x <;> by_cases h2 : b = y <;> simp [h1,h2]
attribute [local go_sem] eq2
def ruTold (q g q1 n nc b h cap i : Nat) (v : Value) : Nat -> Value
 | 0 => .int .i64 0
 | 1 => .pointer (some ⟨q,0,none⟩)
 | 2 => .pointer (some ⟨q,0,none⟩)
 | 3 => .pointer (some ⟨q,8,none⟩)
 | 4 => .slice (some ⟨g,0,none⟩) n nc
 | 5 => .int .i64 (i : Int)
 | 6 => .pointer (some ⟨g,i,none⟩)
 | 7 => .pointer (some ⟨q1,0,none⟩)
 | 8 => .pointer (some ⟨b,8,none⟩)
 | 9 => .slice (some ⟨h,0,none⟩) n cap
 | 10 => .int .i64 (i : Int)
 | 11 => .pointer (some ⟨h,i * 11,none⟩)
 | 12 => v
 | 13 => .int .i64 0
 | 14 => .int .i64 0
 | 15 => .int .i64 0
 | _ => undef
def RgU_In_0 : Nat -> List (Nat × Nat)
 | 2 => [(87,2)]
 | 3 => [(88,3)]
 | 5 => [(6,0)]
 | 6 => [(90,5),(91,6)]
 | 8 => [(3,0)]
 | 9 => [(94,9)]
 | 10 => [(6,0)]
 | 11 => [(95,10),(96,11)]
 | 14 => [(86,1),(99,14)]
 | 15 => [(100,15)]
 | _ => []
theorem unlike_step (k : Int) (s : W4) (lo hi : Int) (z : Bool) (a b : Nat) (l : List Tr) (A A' : Nat -> Prop) (q : Nat) (lv : Value) (w : World) (hlb : l.length <= 1099511000000)
  (ht : NdAt w A (.mk k s lo hi z a b l) (.pointer (some ⟨q,0,none⟩))) (hu : RnAt w A' (.mk k s lo hi z a b l) lv)
  (ih : ∀ (c : Tr) {i : Nat},l[i]? = some c -> ∀ (X : World) (B B' : Nat -> Prop) (q' : Nat) (v' : Value),NdAt X B c (.pointer (some ⟨q',0,none⟩)) -> RnAt X B' c v' -> Calls Tryz.prog 11 #[.pointer (some ⟨q',0,none⟩),rnV c v'] X fun e w' => e = .returned (.int .i64 0) /\ Below X.heap.size X w') :
  Calls Tryz.prog 11 #[.pointer (some ⟨q,0,none⟩),rnV (.mk k s lo hi z a b l) lv] w fun e w' => e = .returned (.int .i64 0) /\ Below w.heap.size w w' := by
 obtain ⟨p,cap,rfl⟩ := hu.slice_len;have HT := qhid ht;have HU := qhid hu;have HIH := qhid ih;obtain ⟨q0,np,nc,e,_,hp,_⟩ := ht.head;injection e with e;injection e with e;injection e with e;subst e;obtain ⟨W1,hW1⟩ : ∃ X,X = w.alloc (.cells #[.int .i64 k,.int .u64 s.a,.int .u64 s.b,.int .u64 s.c,.int .u64 s.d,.int .i64 lo,.int .i64 hi,.bool z,(.slice p l.length cap),.int .i64 (a : Int),.int .i64 (b : Int)] 32) := ⟨_,rfl⟩;have hb1 : Below w.heap.size w W1 := by rw [hW1];exact below1 w _
 have HB1 := qhid hb1;have HK2 : Hid (W1.heap[w.heap.size]? = some (.cells #[.int .i64 k,.int .u64 s.a,.int .u64 s.b,.int .u64 s.c,.int .u64 s.d,.int .i64 lo,.int .i64 hi,.bool z,(.slice p l.length cap),.int .i64 (a : Int),.int .i64 (b : Int)] 32)) := qhid (by rw [hW1];exact heap_new w _);have HK1 := qhid (below_kept hb1 hp);have HW1 := qhid hW1;change Calls _ _ #[_,.agg #[.int .i64 k,.int .u64 s.a,.int .u64 s.b,.int .u64 s.c,.int .u64 s.d,.int .i64 lo,.int .i64 hi,.bool z,(.slice p l.length cap),.int .i64 (a : Int),.int .i64 (b : Int)]] _ _;have n0 := jC HK1.out 0;have n1 := jC HK1.out 1;have n2 := jC HK1.out 2;have n3 := jC HK1.out 3;have n4 := jC HK1.out 4;have n5 := jC HK1.out 5;have n6 := jC HK1.out 6;have n7 := jC HK1.out 7;have n8 := jC HK1.out 8;have n9 := jC HK1.out 9;have n10 := jC HK1.out 10;have x0 := jC HK2.out 0;have x1 := jC HK2.out 1;have x2 := jC HK2.out 2;have x3 := jC HK2.out 3;have x4 := jC HK2.out 4;have x5 := jC HK2.out 5;have x6 := jC HK2.out 6;have x7 := jC HK2.out 7;have x8 := jC HK2.out 8;have x9 := jC HK2.out 9;have x10 := jC HK2.out 10;have hn1 := jS HK1.out;have hn2 := jS HK2.out;simp only [Reg.la,Reg.lb,Reg.lc] at n0 x0 n1 x1 n2 x2 n3 x3 n4 x4 n5 x5 n6 x6 n7 x7 n8 x8 n9 x9 n10 x10;clear ht hu ih hW1 hb1 hp
 go_enter Tryz.func11,Tryz.ntmps11
 go_upto_region 1 with fail
 rw [<- HW1.out];clear HW1
 go_quiet (fail)
 go_upto_region 3 with fail
 clear n0 x0 n1 x1 n2 x2 n3 x3 n4 x4 n5 x5 n6 x6 n7 x7 n8 x8 n9 x9 n10 x10 hn1 hn2
 go_wp2_with fail
 go_loopw [5,6] (fun sv iv wr => ∃ i : Nat,i <= l.length /\ iv = .int .i64 (i : Int) /\ sv = .int .i64 0 /\ Hid (Below W1.heap.size W1 wr)) (fun _ iv _ => l.length - (intOf iv).toNat)
 case atStart => exact ⟨0,by omega,rfl,rfl,qhid (by first | exact Below.refl _ _ | exact below_quiet _ _)⟩
 case round =>
  obtain ⟨i,hi2,rfl,rfl,HB⟩ := hrel;have HBW := qhid (HB1.out.trans (HB.out.mono HB1.out.size));have HQ1 := qhid ((HB.out.block _ (jS HK1.out)).trans HK1.out);have HQ2 := qhid ((HB.out.block _ (jS HK2.out)).trans HK2.out);have n8 := jC HQ1.out 8;have hn1 := jS HQ1.out;simp only [Reg.la,Reg.lb,Reg.lc] at n8
  by_cases hlt : i < l.length
  ·obtain ⟨c,hc⟩ : ∃ c,l[i]? = some c := ⟨_,List.getElem?_eq_getElem hlt⟩;obtain ⟨q2,np',nc',e,_,hp,hch⟩ := (HT.out.up HBW.out).head;injection e with e;injection e with e;injection e with e;subst e;have e2 := HQ1.out.symm.trans hp;injection e2 with e2;injection e2 with e2;obtain ⟨g,u,hg1,hg2,hg3,hnd⟩ := hch i c hc;have e3 := congrArg (fun x : Array Value => x[8]?) e2;simp at e3;obtain ⟨e4,e5⟩ := e3;subst e4 e5 hg1;obtain ⟨q1,rfl⟩ := hnd.pointer;obtain ⟨k1,s1,lo1,hi1,z1,a1,b1,l1⟩ := c;obtain ⟨h,cp1,lu1,hv1,hg1,hr1,cc⟩ := (HU.out.up HBW.out).get hc;injection hv1 with hv1 _ hv2;subst hv1 hv2;obtain ⟨pp,n1,cq,rfl⟩ := hr1.slice;have HR := qhid (fun (X : World) (hX : Below wr.heap.size wr X) => HIH.out _ hc X (fun _ => True) (fun _ => True) q1 _ ((hnd.up hX).mono (fun _ _ _ => trivial)) ((hr1.up hX).mono (fun _ _ _ => trivial)));have HC1 := qhid cc;have HG1 := qhid hg1;have HGC := qhid hg2;have HCC := qhid hg3;clear hr1 cc hc hg1 hg2 hg3 hnd hp hch e2
   go_upto_region 7 with fail
   clear n8 hn1;refine Reg.wp_region_C (ruTold q g q1 l.length nc w.heap.size h cap i (.agg #[.int .i64 k1,.int .u64 s1.a,.int .u64 s1.b,.int .u64 s1.c,.int .u64 s1.d,.int .i64 lo1,.int .i64 hi1,.bool z1,(.slice pp n1 cq),.int .i64 (a1 : Int),.int .i64 (b1 : Int)])) (fun _ X => Below wr.heap.size wr X) [0,1,2,3,4,5,6,7,8,9,10,11,12,13,14,15] (by rfl) (by kernel_rfl) (by kernel_rfl) ?_ ?_ ?_
   ·exact Below.drew (Below.refl _ _)
   ·refine ⟨fun listed A X hI hcl hin hun hall => .inl ⟨Reg.wn,?_⟩,?_⟩
    ·have e5 := Reg.evc hI hcl (k := 0) (d := 5) (by simpa using hun) (by kernel_rfl) rfl;have hX : Below wr.heap.size wr X := hI.st;have HX := qhid hX;clear hI hall hX hcl;unfold Reg.Yields
     go_simp
     first | rfl | exact ⟨rfl,HX.out⟩ | (refine ⟨?_,HX.out⟩;simp [ruTold];done) | (refine ⟨?_,HX.out⟩;simp [ruTold];assumption)
    refine Reg.oC (fun listed A X hI hcl hin hun hall _ => ?_) ?_
    ·have e0 := hI.wo 0 rfl;have hX : Below wr.heap.size wr X := hI.st;have HX := qhid hX;clear hI hall hX hcl
     go_simp
     first | rfl | exact ⟨rfl,HX.out⟩ | (refine ⟨?_,HX.out⟩;simp [ruTold];done) | (refine ⟨?_,HX.out⟩;simp [ruTold];assumption)
    iterate 2
     refine Reg.oC (fun listed A X hI hcl hin hun hall _ => ?_) ?_
     ·have E := hI.tf hun hall RgU_In_0;simp only [Reg.TF,RgU_In_0,ruTold] at E;have hX : Below wr.heap.size wr X := hI.st;have hyl := jS ((hX.block _ (jS HQ1.out)).trans HQ1.out);have HX := qhid hX;clear hI hall hX hcl
      go_simp
      first | rfl | exact ⟨rfl,HX.out⟩ | (refine ⟨?_,HX.out⟩;simp [ruTold];done) | (refine ⟨?_,HX.out⟩;simp [ruTold];assumption)
    refine Reg.oC (fun listed A X hI hcl hin hun hall _ => ?_) ?_
    ·have e89 : A.tmps[89]? = some (.pointer (some ⟨q,8,none⟩)) := hI.v hall 3 89;have hX : Below wr.heap.size wr X := hI.st;have hb := (hX.block _ (jS HQ1.out)).trans HQ1.out;have v8 := jC hb 8;have hyl := jS hb;simp only [Reg.la,Reg.lb,Reg.lc] at v8;clear hb;have HX := qhid hX;clear hI hall hX hcl
     go_simp
     first | rfl | exact ⟨rfl,HX.out⟩ | (refine ⟨?_,HX.out⟩;simp [ruTold];done) | (refine ⟨?_,HX.out⟩;simp [ruTold];assumption)
    iterate 2
     refine Reg.oC (fun listed A X hI hcl hin hun hall _ => ?_) ?_
     ·have E := hI.tf hun hall RgU_In_0;simp only [Reg.TF,RgU_In_0,ruTold,Reg.la,Reg.lb,Reg.lc] at E;have hX : Below wr.heap.size wr X := hI.st;have HX := qhid hX;clear hI hall hX hcl
      go_simp
      first | rfl | exact ⟨rfl,HX.out⟩ | (refine ⟨?_,HX.out⟩;simp [ruTold];done) | (refine ⟨?_,HX.out⟩;simp [ruTold];assumption)
    refine Reg.oC (fun listed A X hI hcl hin hun hall _ => ?_) ?_
    ·have e92 : A.tmps[92]? = some (.pointer (some ⟨g,i,none⟩)) := hI.v hall 6 92;have hX : Below wr.heap.size wr X := hI.st;have f := (hX.cell (p := ⟨g,i,none⟩) HGC.out).trans HCC.out;have HX := qhid hX;clear hI hall hX hcl
     go_simp
     first | rfl | exact ⟨rfl,HX.out⟩ | (refine ⟨?_,HX.out⟩;simp [ruTold];done) | (refine ⟨?_,HX.out⟩;simp [ruTold];assumption)
    iterate 2
     refine Reg.oC (fun listed A X hI hcl hin hun hall _ => ?_) ?_
     ·have E := hI.tf hun hall RgU_In_0;simp only [Reg.TF,RgU_In_0,ruTold,Reg.la,Reg.lb,Reg.lc] at E;have hX : Below wr.heap.size wr X := hI.st;have hb := (hX.block _ (jS HQ2.out)).trans HQ2.out;have v8 := jC hb 8;have hyl := jS hb;simp only [Reg.la,Reg.lb,Reg.lc] at v8;clear hb;have HX := qhid hX;clear hI hall hX hcl
      go_simp
      first | rfl | exact ⟨rfl,HX.out⟩ | (refine ⟨?_,HX.out⟩;simp [ruTold];done) | (refine ⟨?_,HX.out⟩;simp [ruTold];assumption)
    iterate 2
     refine Reg.oC (fun listed A X hI hcl hin hun hall _ => ?_) ?_
     ·have E := hI.tf hun hall RgU_In_0;simp only [Reg.TF,RgU_In_0,ruTold,Reg.la,Reg.lb,Reg.lc] at E;have hX : Below wr.heap.size wr X := hI.st;have HX := qhid hX;clear hI hall hX hcl
      go_simp
      first | rfl | exact ⟨rfl,HX.out⟩ | (refine ⟨?_,HX.out⟩;simp [ruTold];done) | (refine ⟨?_,HX.out⟩;simp [ruTold];assumption)
    refine Reg.oC (fun listed A X hI hcl hin hun hall _ => ?_) ?_
    ·have e97 : A.tmps[97]? = some (.pointer (some ⟨h,i * 11,none⟩)) := hI.v hall 11 97;have hX : Below wr.heap.size wr X := hI.st;obtain ⟨c0,⟨c1,c2,c3,c4⟩,c5,c6,c7,c8,c9,c10⟩ := HC1.out;have hgx := Nat.lt_of_lt_of_le HG1.out hX.size;have f0 := (hX.cell (p := ⟨h,i * 11,none⟩) HG1.out).trans c0;have f1 := (hX.cell (p := ⟨h,i * 11 + 1,none⟩) HG1.out).trans c1;have f2 := (hX.cell (p := ⟨h,i * 11 + 2,none⟩) HG1.out).trans c2;have f3 := (hX.cell (p := ⟨h,i * 11 + 3,none⟩) HG1.out).trans c3;have f4 := (hX.cell (p := ⟨h,i * 11 + 4,none⟩) HG1.out).trans c4;have f5 := (hX.cell (p := ⟨h,i * 11 + 5,none⟩) HG1.out).trans c5;have f6 := (hX.cell (p := ⟨h,i * 11 + 6,none⟩) HG1.out).trans c6;have f7 := (hX.cell (p := ⟨h,i * 11 + 7,none⟩) HG1.out).trans c7;have f8 := (hX.cell (p := ⟨h,i * 11 + 8,none⟩) HG1.out).trans c8;have f9 := (hX.cell (p := ⟨h,i * 11 + 9,none⟩) HG1.out).trans c9;have f10 := (hX.cell (p := ⟨h,i * 11 + 10,none⟩) HG1.out).trans c10;clear c0 c1 c2 c3 c4 c5 c6 c7 c8 c9 c10;have HX := qhid hX;clear hI hall hX hcl
     go_simp
     first | rfl | exact ⟨rfl,HX.out⟩ | (refine ⟨?_,HX.out⟩;simp [ruTold];done) | (refine ⟨?_,HX.out⟩;simp [ruTold];assumption)
    refine Reg.oC (fun listed A X hI hcl hin hun hall _ => ?_) ?_
    ·have e93 : A.tmps[93]? = some (.pointer (some ⟨q1,0,none⟩)) := hI.v hall 7 93;have e98 : A.tmps[98]? = some (.agg #[.int .i64 k1,.int .u64 s1.a,.int .u64 s1.b,.int .u64 s1.c,.int .u64 s1.d,.int .i64 lo1,.int .i64 hi1,.bool z1,(.slice pp n1 cq),.int .i64 (a1 : Int),.int .i64 (b1 : Int)]) := hI.v hall 12 98;have hX : Below wr.heap.size wr X := hI.st;have HX := qhid hX;clear hI hall hX hcl
     go_simp
     exact (HR.out X HX.out).mono fun e w'' ⟨he,hb⟩ => ⟨_,he,rfl,HX.out.trans (hb.mono HX.out.size)⟩
    iterate 2
     refine Reg.oC (fun listed A X hI hcl hin hun hall _ => ?_) ?_
     ·have E := hI.tf hun hall RgU_In_0;simp only [Reg.TF,RgU_In_0,ruTold] at E;have hX : Below wr.heap.size wr X := hI.st;have HX := qhid hX;clear hI hall hX hcl
      go_simp
      first | rfl | exact ⟨rfl,HX.out⟩ | (refine ⟨?_,HX.out⟩;simp [ruTold];done) | (refine ⟨?_,HX.out⟩;simp [ruTold];assumption)
    trivial
   ·intro X hS;have HX := qhid hS;clear hS;simp [Reg.finalTmps,Reg.dstAt,Reg.valOf,ruTold];have HBX := qhid (HB.out.trans (HX.out.mono HB.out.size));clear HQ1 HQ2 HC1 HG1 HR HGC HCC
    go_wp2_with fail
    go_roundw
    case rel => exact ⟨i + 1,by omega,by go_num,by first | rfl | go_num,HBX⟩
    case measure => simp [intOf];omega
  ·have hge : i = l.length := by omega
   clear hlt;subst hge
   go_wp2_with fail
   exact bodyPost_ret (v := .int .i64 0) (by simp [results,Tryz.results11,go_sem]) rfl ⟨rfl,HBW.out⟩
theorem unlike_any : ∀ (n : Nat) (t : Tr) (A A' : Nat -> Prop) (q : Nat) (lv : Value) (w : World),trSize t <= n -> n <= 1099511000000 -> NdAt w A t (.pointer (some ⟨q,0,none⟩)) -> RnAt w A' t lv ->
  Calls Tryz.prog 11 #[.pointer (some ⟨q,0,none⟩),rnV t lv] w fun e w' => e = .returned (.int .i64 0) /\ Below w.heap.size w w'
 | 0,t,A,A',q,lv,w,h,_,_,_ => by have := trSize_pos t;omega
 | n + 1,.mk k s lo hi z a b l,A,A',q,lv,w,h,hn,ht,hu => by
  rw [trSize] at h;have hl := trSizes_len l;exact unlike_step k s lo hi z a b l A A' q lv w (by omega) ht hu (fun c i hc X B B' q' v' h1 h2 => unlike_any n c B B' q' v' X (by have := trSize_mem (List.mem_of_getElem? hc);omega) (by omega) h1 h2)
end
end Go.Proofs.YtlmcgbieobklhaaGreatDoor
