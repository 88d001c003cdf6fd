/- A part of the proof. -/
import Derived.Test.YtnmalggmbeipaaaGreatDoorRfG
import Derived.Deep.DeepCutAuto
import Derived.Test.YtnmalggmbeipaaaGreatDoorRfH
import Derived.Test.YtnmalggmbeipaaaGreatDoorTa
import Derived.Deep.CutBlock
set_option maxRecDepth 100000
set_option maxHeartbeats 16000000
namespace Go.Proofs.YtnmalggmbeipaaaGreatDoor
section
open Go Go.RowKit
attribute [local go_sem ↓] Go.wp_at_zero Go.wp_at_succ
attribute [local go_sem] qX
def Vk(s:ByteArray)(a:Nat):Nat->Nat
 |0=>0
 |i+1=>min (10*Vk s a i+(jl s (a+i)-48)) 100000
theorem nvc_le(s:ByteArray)(a i:Nat):Vk s a i<=100000:=by
 cases i with
 |zero=>simp [Vk]
 |succ i=>exact Nat.min_le_right _ _
theorem Xp(s:ByteArray)(a:Nat):∀i,xJ s a i=min (Vk s a i) 1001
 |0=>by simp [Vk,xJ]
 |i+1=>by
  have ih:=Xp s a i;rw [xJ,Vk,ih];generalize jl s (a+i)-48=d;generalize Vk s a i=x;omega
def numAns(r:Int×Int×Nat):Value:=.tuple #[.int .i64 r.1,.agg #[.int .i64 (r.2.2:Int),.int .i64 r.2.1]]
theorem XC{b:Nat}(h:digB b=true):xT b=((b-48:Nat):Int)/\b<=57/\b-48<=9:=by
 unfold digB at h;simp at h;unfold xT;rw [if_pos ⟨h.1,h.2⟩];omega
theorem Zb{b:Nat}(h:digB b=false):xT b= -1\/((∃y:Nat,xT b=(y:Int))/\57<b):=by
 have h':¬(48<=b/\b<=57):=by intro hh;unfold digB at h;simp [hh.1,hh.2] at h
 unfold xT;rw [if_neg h']
 by_cases f:97<=b/\b<=102
 ·rw [if_pos f];exact .inr ⟨⟨b-87,by omega⟩,by omega⟩
 ·rw [if_neg f]
  by_cases g:65<=b/\b<=70
  ·rw [if_pos g];exact .inr ⟨⟨b-55,by omega⟩,by omega⟩
  ·rw [if_neg g];exact .inl rfl
theorem YP(s:ByteArray)(a:Nat)(ha:a<=s.size)(hs:s.size<=1099511627776)(w:World):
  Calls Tryz.prog 193 #[.string s,.int .i64 (a:Int)] w fun e w'=>e=.returned (numAns (jr s a))/\Below w.heap.size w w':=by
 have HX:=j0 (fun b (hb:b<256) W=>Qp b hb W);have HD:=j0 (Uw ha)
 go_enter Tryz.func193,Tryz.ntmps193
 go_wp2_with fail
 go_loopw [6,7] (fun n i wr=>∃m q:Nat,m<=dall s a/\Hid (q=a+m)/\q<=s.size/\n=.int .i64 ((Vk s a m:Nat):Int)/\i=.int .i64 (q:Int)/\wr=w.alloc yP) (fun _ i _=>s.size-(intOf i).toNat)
 case atStart=>exact⟨0,a,by omega,j0 (by omega),ha,rfl,rfl,rfl⟩
 case round=>
  obtain⟨m,q,hm,HQ,hq,rfl,rfl,rfl⟩:=hrel
  go_upto_region 2 with fail
  go_cut [25] (fun v wx=>v=.bool (digB (jl s q))/\wx=w.alloc yP)
  case first=>
   by_cases hlt:q<s.size
   ·have d1:decide (q<s.size)=true:=jT hlt;have hbq:((s[q]'hlt).toNat)=jl s q:=(jy hlt).symm;have hbl:=qk hlt;have HXq:=j0 (HX.out (jl s q) hbl);rw [<-hbq] at HXq
    cases hd:digB (jl s q)
    ·have HB:=j0 hd;rw [<-hbq] at hd
     rcases Zb hd with hx|⟨⟨y,hx⟩,h57⟩
     ·rw [hx] at HXq;clear hd hbq hbl hx
      go_wp2_with fail
      refine(HXq.out _).mono ?_;rintro e w2 ⟨rfl,hw2⟩;obtain rfl:=hw2
      go_wp2_with fail
      go_meet
      exact⟨by first|rfl|rw [HB.out],rfl⟩
     ·rw [hx] at HXq;have d2:decide (0<=(y:Int))=true:=jT (by omega);have d3:decide (((s[q]'hlt).toNat:Int)<=57)=false:=jF (by omega);clear hd hbq hbl hx h57
      go_wp2_with fail
      refine(HXq.out _).mono ?_;rintro e w2 ⟨rfl,hw2⟩;obtain rfl:=hw2
      go_wp2_with fail
      go_meet
      exact⟨by first|rfl|rw [HB.out],rfl⟩
    ·have HB:=j0 hd;rw [<-hbq] at hd;obtain⟨hx,h57,_⟩:=XC hd;rw [hx] at HXq;generalize (s[q]'hlt).toNat-48=y at HXq;have d2:decide (0<=(y:Int))=true:=jT (by omega);have d3:decide (((s[q]'hlt).toNat:Int)<=57)=true:=jT (by omega);clear hd hbq hbl hx h57
     go_wp2_with fail
     refine(HXq.out _).mono ?_;rintro e w2 ⟨rfl,hw2⟩;obtain rfl:=hw2
     go_wp2_with fail
     go_meet
     exact⟨by first|rfl|rw [HB.out],rfl⟩
   ·have d1:decide (q<s.size)=false:=jF hlt;have HB:Hid (digB (jl s q)=false):=j0 (by rw [qr (by omega)];rfl)
    go_wp2_with fail
    go_meet
    exact⟨by rw [HB.out],rfl⟩
  case rest=>
   obtain⟨rfl,rfl⟩:=hcut
   cases hd:digB (jl s q)
   ·have hme:m=dall s a:=by
     by_cases h:m<dall s a
     ·have:=(ZW h).2;rw [<-HQ.out,hd] at this;cases this
     ·omega
    have hnv:=Xp s a m;have hvl:=nvc_le s a m;clear hd HX
    by_cases h0:m=0
    ·have HF:Hid (jr s a=(0,4,a)):=j0 (Um (by omega));have e0:((q:Int)==(a:Int))=true:=by have:=HQ.out;simp;omega
     have HQA:Hid (q=a):=j0 (by have:=HQ.out;omega);clear hme hnv hm h0;generalize Vk s a m=x at*
     go_wp2_with fail
     refine bodyPost_ret (v:=.tuple #[.int .i64 0,.agg #[.int .i64 (q:Int),.int .i64 4]]) (by simp [results,Tryz.results193,go_sem]) rfl ⟨by rw [HF.out,HQA.out];rfl,j3 _ _⟩
    ·have e0:((q:Int)==(a:Int))=false:=by have:=HQ.out;simp;omega
     by_cases hbig:1000<Vk s a m
     ·have HF:Hid (jr s a=(0,5,a)):=j0 (Xq (by omega) (by rw [<-hme];omega));have d1:decide ((1000:Int)<((Vk s a m:Nat):Int))=true:=jT (by omega);clear hme hnv hm h0 hbig;generalize Vk s a m=x at*
      go_wp2_with fail
      refine bodyPost_ret (v:=.tuple #[.int .i64 0,.agg #[.int .i64 (a:Int),.int .i64 5]]) (by simp [results,Tryz.results193,go_sem]) rfl ⟨by rw [HF.out];rfl,j3 _ _⟩
     ·have HF:Hid (jr s a=(((Vk s a m:Nat):Int),0,q)):=j0 (by rw [ZG (by omega) (by rw [<-hme];omega),<-hme,HQ.out];congr 2;omega);have d1:decide ((1000:Int)<((Vk s a m:Nat):Int))=false:=jF (by omega);clear hme hnv hm h0 hbig;generalize Vk s a m=x at*
      go_wp2_with fail
      refine bodyPost_ret (v:=.tuple #[.int .i64 (x:Int),.agg #[.int .i64 (q:Int),.int .i64 0]]) (by simp [results,Tryz.results193,go_sem]) rfl ⟨by rw [HF.out];rfl,j3 _ _⟩
   ·have hlt:q<s.size:=by
     by_cases h:q<s.size
     ·exact h
     ·rw [qr (by omega)] at hd;exact absurd hd (by decide)
    have hml:m<dall s a:=by
     by_cases h:m<dall s a
     ·exact h
     ·have h1:=XR s a;rw [show dall s a=m by omega,<-HQ.out,hd] at h1;exact absurd (h1 hlt) (by decide)
    have hbq:((s[q]'hlt).toNat)=jl s q:=(jy hlt).symm;have HXq:=j0 (HX.out (jl s q) (qk hlt));obtain⟨hx,_,hy9⟩:=XC hd;rw [hx,<-hbq] at HXq;have HV:Hid (Vk s a (m+1)=min (10*Vk s a m+((s[q]'hlt).toNat-48)) 100000):=j0 (by rw [hbq,HQ.out];rfl);rw [<-hbq] at hy9;have hvl:=nvc_le s a m;generalize (s[q]'hlt).toNat-48=y at*;generalize Vk s a m=x at*;have hmn:min (10*(x:Int)+(y:Int)) 100000=((Vk s a (m+1):Nat):Int):=by rw [HV.out];omega
    clear hd hbq hx HV hm
    go_wp2_with fail
    refine(HXq.out _).mono ?_;rintro e w2 ⟨rfl,hw2⟩;obtain rfl:=hw2
    go_wp2_with fail
    go_roundw
    case rel=>exact⟨m+1,q+1,by omega,j0 (by have:=HQ.out;omega),by omega,by first|rfl|rw [hmn],by go_num,by first|rfl|trivial⟩
    case measure=>clear hmn;simp [intOf];omega
def Q7(s:ByteArray)(lo hi:Int)(j:Nat):Int×Int×Int×Nat:=if jl s j=125 then(lo,hi,0,j+1) else(0,0,4,j)
def Jd(s:ByteArray)(a:Nat):Int×Int×Int×Nat:=
 if(jr s a).2.1≠0 then(0,0,(jr s a).2.1,(jr s a).2.2)
 else if jl s (jr s a).2.2=44 then
  (if(jv s (jr s a).1 ((jr s a).2.2+1)).2.1≠0 then(0,0,(jv s (jr s a).1 ((jr s a).2.2+1)).2.1,(jv s (jr s a).1 ((jr s a).2.2+1)).2.2)
  else Q7 s (jr s a).1 (jv s (jr s a).1 ((jr s a).2.2+1)).1 (jv s (jr s a).1 ((jr s a).2.2+1)).2.2)
 else Q7 s (jr s a).1 (jr s a).1 (jr s a).2.2
def UD(r:Int×Int×Int×Nat):Value:=.tuple #[.int .i64 r.1,.int .i64 r.2.1,.agg #[.int .i64 (r.2.2.2:Int),.int .i64 r.2.2.1]]
theorem ZB(s:ByteArray)(lo hi:Int)(j:Nat):shutR s lo hi j=if(Q7 s lo hi j).2.2.1≠0 then(jg,(Q7 s lo hi j).2.2.1,(Q7 s lo hi j).2.2.2) else jK s (Q7 s lo hi j).1 (Q7 s lo hi j).2.1 (Q7 s lo hi j).2.2.2:=by
 unfold shutR Q7
 by_cases h:jl s j=125
 ·rw [if_pos h,if_pos h,if_neg (by simp)]
 ·rw [if_neg h,if_neg h,if_pos (by simp)]
theorem braces_br(s:ByteArray)(k:Nat):kA s k=if(Jd s (k+1)).2.2.1≠0 then(jg,(Jd s (k+1)).2.2.1,(Jd s (k+1)).2.2.2) else jK s (Jd s (k+1)).1 (Jd s (k+1)).2.1 (Jd s (k+1)).2.2.2:=by
 unfold kA Jd
 by_cases h1:(jr s (k+1)).2.1≠0
 ·rw [if_pos h1,if_pos h1,if_pos h1]
 ·rw [if_neg h1,if_neg h1]
  by_cases h2:jl s (jr s (k+1)).2.2=44
  ·rw [if_pos h2,if_pos h2]
   by_cases h3:(jv s (jr s (k+1)).1 ((jr s (k+1)).2.2+1)).2.1≠0
   ·rw [if_pos h3,if_pos h3,if_pos h3]
   ·rw [if_neg h3,if_neg h3];exact ZB _ _ _ _
  ·rw [if_neg h2,if_neg h2];exact ZB _ _ _ _
structure BrW(w X:World)(b8:Nat)(x y:Int):Prop where
 en:je X w.heap.size 0 0
 it:je X b8 x y
 ne:w.heap.size<b8
 bel:Below w.heap.size w X
theorem BrW.below{w X Y:World}{b8:Nat}{x y:Int}(h:BrW w X b8 x y)(hb:Below X.heap.size X Y):BrW w Y b8 x y:=⟨h.en.below hb,h.it.below hb,h.ne,h.bel.trans (hb.mono h.bel.size)⟩
theorem je.first{X:World}{b:Nat}{x y:Int}(h:je X b x y)(z:Int):je (X.setCell ⟨b,0,none⟩ (.int .i64 z)) b z y:=by
 obtain⟨⟨z0,z1⟩,⟨f0,f1⟩,lt⟩:=h;refine⟨⟨?_,?_⟩,⟨?_,?_⟩,by simpa [World.setCell] using lt⟩<;>simp [go_sem, *]
theorem BrW.first{w X:World}{b8:Nat}{x y:Int}(h:BrW w X b8 x y)(z:Int):BrW w (X.setCell ⟨b8,0,none⟩ (.int .i64 z)) b8 z y:=by
 have hne:=h.ne;exact⟨h.en.same (Below.heap_setCell _ _ _ _ (by simp;omega)) (by simp [World.setCell]),h.it.first z,h.ne,h.bel.setCell (by simp;omega) _⟩
theorem BrW.put{w X:World}{b8:Nat}{x y:Int}(h:BrW w X b8 x y)(x' y':Int):BrW w (jO X b8 x' y') b8 x' y':=by
 have hne:=h.ne;exact⟨h.en.other (by omega),h.it.put x' y',h.ne,(h.bel.setCell (by simp;omega) _).setCell (by simp;omega) _⟩
structure BrS(w:World)(b8:Nat)(x8 y8 x y:Int)(i:Nat)(listed:Array Bool)(X:World):Prop where
 en:je X w.heap.size (if listed.getD i false=true then x else 0) (if listed.getD i false=true then y else 0)
 it:je X b8 x8 y8
 ne:w.heap.size<b8
 bel:Below w.heap.size w X
theorem BrS.same{w:World}{b8:Nat}{x8 y8 x y:Int}{i:Nat}{listed:Array Bool}{X:World}{k:Nat}(h:BrS w b8 x8 y8 x y i listed X)(hk:k≠i):BrS w b8 x8 y8 x y i (listed.setIfInBounds k true) X:=by
 refine⟨?_,h.it,h.ne,h.bel⟩;rw [getD_set_ne false hk];exact h.en
theorem BrS.put{w:World}{b8:Nat}{x8 y8 x y:Int}{i:Nat}{listed:Array Bool}{X:World}(h:BrS w b8 x8 y8 x y i listed X)(hin:i<listed.size):BrS w b8 x8 y8 x y i (listed.setIfInBounds i true) (jO X w.heap.size x y):=by
 have hne:=h.ne;refine⟨?_,h.it.other (by omega),h.ne,(h.bel.setCell (by simp) _).setCell (by simp) _⟩;rw [if_pos (Reg.set_self hin),if_pos (Reg.set_self hin)];exact h.en.put x y
def brErr(x y:Int):Nat->Value
 |0=>.agg #[.int .i64 x,.int .i64 y]
 |1=>.int .i64 0
 |2=>.int .i64 0
 |_=>undef
def brOwn(b:Nat)(x y:Int):Nat->Value
 |0=>.pointer (some ⟨b,0,none⟩)
 |1=>.int .i64 x
 |2=>.agg #[.int .i64 x,.int .i64 y]
 |3=>.int .i64 0
 |4=>.int .i64 0
 |_=>undef
def brEnd(lo hi:Int)(b:Nat)(x:Int):Nat->Value
 |0=>.int .i64 lo
 |1=>.int .i64 hi
 |2=>.pointer (some ⟨b,0,none⟩)
 |3=>.int .i64 x
 |4=>.int .i64 (x+1)
 |5=>.agg #[.int .i64 (x+1),.int .i64 0]
 |6=>.int .i64 lo
 |7=>.int .i64 hi
 |_=>undef
def JK:Nat->List (Nat×Nat)
 |0=> [(7,0)]
 |1=> [(9,0)]
 |2=> [(8,0)]
 |4=> [(88,4)]
 |5=> [(89,5)]
 |6=> [(85,1)]
 |7=> [(86,2)]
 |_=> []
theorem refbr_any(s:ByteArray)(a:Nat)(ha:a<=s.size)(hs:s.size<=1099511627776)(w:World):
  Calls Tryz.prog 142 #[.string s,.int .i64 (a:Int)] w fun e w'=>e=.returned (UD (Jd s a))/\Below w.heap.size w w':=by
 have NUM:=j0 (fun a (ha:a<=s.size) W=>YP s a ha hs W);have N1:=j0 (NUM.out a ha);have hle:=Js ha;have herr:=Qx s a;have hv1:=Jr s a
 have HBR:Hid (Jd s a=if(jr s a).2.1≠0 then(0,0,(jr s a).2.1,(jr s a).2.2)
  else if jl s (jr s a).2.2=44 then
   (if(jv s (jr s a).1 ((jr s a).2.2+1)).2.1≠0 then(0,0,(jv s (jr s a).1 ((jr s a).2.2+1)).2.1,(jv s (jr s a).1 ((jr s a).2.2+1)).2.2)
   else Q7 s (jr s a).1 (jv s (jr s a).1 ((jr s a).2.2+1)).1 (jv s (jr s a).1 ((jr s a).2.2+1)).2.2)
  else Q7 s (jr s a).1 (jr s a).1 (jr s a).2.2):=j0 rfl
 obtain⟨r,hr⟩:∃r,r=jr s a:=⟨_,rfl⟩;rw [<-hr] at N1 HBR hle herr hv1;clear hr;obtain⟨v,c,j⟩:=r;have N1:Hid (∀W,Calls Tryz.prog 193 #[.string s,.int .i64 (a:Int)] W fun e w'=>e=.returned (.tuple #[.int .i64 v,.agg #[.int .i64 (j:Int),.int .i64 c]])/\Below W.heap.size W w'):=N1
 have HBR:Hid (Jd s a=if c≠0 then(0,0,c,j)
  else if jl s j=44 then
   (if(jv s v (j+1)).2.1≠0 then(0,0,(jv s v (j+1)).2.1,(jv s v (j+1)).2.2) else Q7 s v (jv s v (j+1)).1 (jv s v (j+1)).2.2)
  else Q7 s v v j):=HBR
 have hj:j<=s.size:=hle.2;have herr:c=0\/c=4\/c=5:=herr;clear hle hv1
 go_enter Tryz.func142,Tryz.ntmps142
 go_wp2_with fail
 refine(N1.out _).mono ?_;rintro e w1 ⟨rfl,hb1⟩
 have HW:Hid (BrW w (w1.alloc (vU j c)) w1.heap.size j c):=j0 (by
  have h1:=(je.of (j1 w yP)).below hb1;have hsz:=hb1.size;rw [World.size_alloc] at hsz;have h2:=(j3 w yP).trans (hb1.mono (by simp))
  exact⟨h1.below (j3 _ _),je.of (j1 _ _),by omega,h2.trans ((j3 _ _).mono h2.size)⟩)
 clear hb1 N1
 go_upto_region 2 with fail
 generalize w1.alloc (vU j c)=W at*;generalize w1.heap.size=b8 at*;have h68:=HW.out.ne;have hn1:¬w.heap.size=b8:=by omega
 have hn2:¬b8=w.heap.size:=by omega
 rcases errs herr with rfl|⟨hc0,hc1,hc2⟩
 ·have HBR:Hid (Jd s a=if jl s j=44 then
    (if(jv s v (j+1)).2.1≠0 then(0,0,(jv s v (j+1)).2.1,(jv s v (j+1)).2.2) else Q7 s v (jv s v (j+1)).1 (jv s v (j+1)).2.2)
   else Q7 s v v j):=j0 (by rw [HBR.out,if_neg (by simp)])
  clear herr;obtain⟨⟨z0,z1⟩,⟨l0,l1⟩,hz⟩:=HW.out.it
  go_upto_region 5 with fail
  clear z0 z1 l0 l1 hz
  go_cut [34] (fun x wx=>x=.bool (decide (jl s j=44))/\wx=W)
  case first=>
   obtain⟨⟨z0,z1⟩,⟨l0,l1⟩,hz⟩:=HW.out.it
   by_cases hlt:j<s.size
   ·have d1:decide (j<s.size)=true:=jT (by omega)
    by_cases hch:jl s j=44
    ·have hc:(((s[j]'hlt).toNat:Int)==44)=true:=by rw [jy hlt] at hch;simp [hch]
     have HD:=j0 (jT hch);clear hch
     go_wp2_with fail
     go_meet
     exact⟨by rw [HD.out]<;>rfl,rfl⟩
    ·have hc:(((s[j]'hlt).toNat:Int)==44)=false:=by rw [jy hlt] at hch;simp;omega
     have HD:=j0 (jF hch);clear hch
     go_wp2_with fail
     go_meet
     exact⟨by rw [HD.out]<;>rfl,rfl⟩
   ·have d1:decide (j<s.size)=false:=jF (by omega);have hch:¬jl s j=44:=by rw [qr (by omega)];decide
    have HD:=j0 (jF hch);clear hch
    go_wp2_with fail
    go_meet
    exact⟨by rw [HD.out]<;>rfl,rfl⟩
  case rest=>
   obtain⟨rfl,hwc⟩:=hcut;obtain rfl:W=wc:=hwc.symm
   go_upto_if 34 with fail
   go_cut [9] (fun n wx=>∃(hi:Int) (jj:Nat),n=.int .i64 hi/\jj<=s.size/\Hid (BrW w wx b8 jj 0)/\Hid (Jd s a=Q7 s v hi jj))
   case first=>
    by_cases h44:jl s j=44
    ·have hj1:=ka h44 (by omega);have HBR:Hid (Jd s a=if(jv s v (j+1)).2.1≠0 then(0,0,(jv s v (j+1)).2.1,(jv s v (j+1)).2.2) else Q7 s v (jv s v (j+1)).1 (jv s v (j+1)).2.2):=j0 (by rw [HBR.out,if_pos h44]);rw [jT h44];clear h44;obtain⟨q,hq⟩:∃q,q=j+1:=⟨_,rfl⟩;rw [<-hq] at HBR;have hqs:q<=s.size:=by omega
     have eq1:IntKind.i64.wrap ((j:Int)+1)=(q:Int):=by simp [IntKind.wrap,IntKind.signed,IntKind.bits];omega
     have eq2:(j:Int)+1=(q:Int):=by omega
     have HW2:=j0 (HW.out.first (q:Int));obtain⟨⟨z0,z1⟩,⟨l0,l1⟩,hz⟩:=HW.out.it;clear hq
     go_upto_region 8 with fail
     clear z0 z1 l0 l1 hz eq1 eq2 HW;obtain⟨W2,hW2⟩:∃W2,W2=W.setCell ⟨b8,0,none⟩ (.int .i64 (q:Int)):=⟨_,rfl⟩;rw [<-hW2] at HW2;change Code.wp _ _ _ _ (W.setCell ⟨b8,0,none⟩ (.int .i64 (q:Int)));rw [<-hW2];clear hW2
     go_cut [50] (fun x wx=>x=.bool (!decide (jl s q=125))/\wx=W2)
     case first=>
      obtain⟨⟨z0,z1⟩,⟨l0,l1⟩,hz⟩:=HW2.out.it
      by_cases hlt:q<s.size
      ·have d1:decide (s.size<=q)=false:=jF (by omega)
       by_cases hch:jl s q=125
       ·have hc:(((s[q]'hlt).toNat:Int) !=125)=false:=by rw [jy hlt] at hch;simp [hch]
        have HD:=j0 (jT hch);clear hch
        go_wp2_with fail
        go_meet
        exact⟨by rw [HD.out]<;>rfl,rfl⟩
       ·have hc:(((s[q]'hlt).toNat:Int) !=125)=true:=by rw [jy hlt] at hch;simp;omega
        have HD:=j0 (jF hch);clear hch
        go_wp2_with fail
        go_meet
        exact⟨by rw [HD.out]<;>rfl,rfl⟩
      ·have d1:decide (s.size<=q)=true:=jT (by omega);have hch:¬jl s q=125:=by rw [qr (by omega)];decide
       have HD:=j0 (jF hch);clear hch
       go_wp2_with fail
       go_meet
       exact⟨by rw [HD.out]<;>rfl,rfl⟩
     case rest=>
      obtain⟨rfl,hwc⟩:=hcut;obtain rfl:W2=wc:=hwc.symm
      by_cases h125:jl s q=125
      ·rw [jT h125];have HF:Hid (Jd s a=Q7 s v (-1) q):=j0 (by rw [HBR.out,show jv s v q=(-1,0,q) by unfold jv;rw [if_pos h125]];rw [if_neg (by simp)]);clear h125 HBR
       go_wp2_with fail
       go_meet
       exact⟨-1,q,rfl,hqs,HW2,HF⟩
      ·rw [jF h125];have HM:Hid (jv s v q=if(jr s q).2.1=0/\(jr s q).1<v then(0,5,q) else jr s q):=j0 (by unfold jv;rw [if_neg h125]);have N2:=j0 (NUM.out q hqs);have hle2:=Js hqs;have herr2:=Qx s q;obtain⟨r,hr⟩:∃r,r=jr s q:=⟨_,rfl⟩;rw [<-hr] at N2 HM hle2 herr2;clear hr h125 NUM;obtain⟨v2,c2,j2⟩:=r;have N2:Hid (∀W,Calls Tryz.prog 193 #[.string s,.int .i64 (q:Int)] W fun e w'=>e=.returned (.tuple #[.int .i64 v2,.agg #[.int .i64 (j2:Int),.int .i64 c2]])/\Below W.heap.size W w'):=N2;have HM:Hid (jv s v q=if c2=0/\v2<v then(0,5,q) else(v2,c2,j2)):=HM;have hj2:j2<=s.size:=hle2.2;have herr2:c2=0\/c2=4\/c2=5:=herr2;obtain⟨⟨z0,z1⟩,⟨l0,l1⟩,hz⟩:=HW2.out.it
       go_wp2_with fail
       refine(N2.out _).mono ?_;rintro e w3 ⟨rfl,hb3⟩;have HW3:=j0 ((HW2.out.below hb3).below (j3 _ (vU j2 c2)));have HE3:=j0 (je.of (j1 w3 (vU j2 c2)));have hlt3:=(HW2.out.below hb3).it.lt;clear hb3 HW2 N2 z0 z1 l0 l1 hz
       go_upto_region 10 with fail
       generalize w3.alloc (vU j2 c2)=W3 at*;generalize w3.heap.size=b11 at*;obtain⟨⟨z0,z1⟩,⟨l0,l1⟩,hz⟩:=HE3.out
       rcases errs herr2 with rfl|⟨hd0,hd1,hd2⟩
       ·by_cases hlo:v2<v
        ·have dlo:decide (v2<v)=true:=jT hlo
         have HF:Hid (Jd s a=(0,0,5,q)):=j0 (by
          have hM:jv s v q=(0,5,q):=by rw [HM.out,if_pos ⟨rfl,hlo⟩]
          rw [HBR.out,hM,if_pos (by simp)])
         clear HBR HM hlo herr2
         go_wp2_with fail
         refine Reg.wp_region_S (brOwn b8 (q:Int) 5) (BrS w b8 (q:Int) 0 (q:Int) 5 5) [0,1,2,3,4,5] (by rfl) (by kernel_rfl) (by kernel_rfl) ?_ ?_ ?_
         ·exact⟨⟨HW3.out.en.at_,HW3.out.en.free,HW3.out.en.lt⟩,⟨HW3.out.it.at_,HW3.out.it.free,HW3.out.it.lt⟩,HW3.out.ne,⟨HW3.out.bel.os,HW3.out.bel.tape,HW3.out.bel.output,HW3.out.bel.size,HW3.out.bel.block⟩⟩
         ·refine Reg.oS (fun listed A X hI hin hun hall HS=> ?_) ?_
          ·have e8:=hI.wo 8 rfl;clear hI hall
           go_simp
           exact⟨rfl,HS.same (by decide)⟩
          refine Reg.oS (fun listed A X hI hin hun hall HS=> ?_) ?_
          ·have e65:A.tmps[65]? =some (.pointer (some ⟨b8,0,none⟩)):=hI.v hall 0 65;obtain⟨⟨z0,z1⟩,⟨l0,l1⟩,hz⟩:=HS.it;clear hI hall
           go_simp
           exact⟨rfl,HS.same (by decide)⟩
          refine Reg.oS (fun listed A X hI hin hun hall HS=> ?_) ?_
          ·have e66:A.tmps[66]? =some (.int .i64 (q:Int)):=hI.v hall 1 66;clear hI hall
           go_simp
           exact⟨rfl,HS.same (by decide)⟩
          iterate 2
           refine Reg.oS (fun listed A X hI hin hun hall HS=> ?_) ?_
           ·clear hI hall
            go_simp
            exact⟨rfl,HS.same (by decide)⟩
          refine Reg.oS (fun listed A X hI hin hun hall HS=> ?_) ?_
          ·have e6:=hI.wo 6 rfl;have e67:A.tmps[67]? =some (.agg #[.int .i64 (q:Int),.int .i64 5]):=hI.v hall 2 67;obtain⟨⟨u0,u1⟩,⟨v0,v1⟩,hu⟩:=HS.en;have HS3:=j0 (HS.put hin);clear HS;clear hI hall
           go_simp
           exact⟨rfl,HS3.out⟩
          trivial
         ·intro W9 hS;have hen:je W9 w.heap.size ((q:Int)) (5):=hS.en;have HB9:=j0 hS.bel;obtain⟨⟨m0,m1⟩,_,_⟩:=hen;clear hS;simp [Reg.finalTmps,Reg.dstAt,Reg.valOf,brOwn]
          go_wp2_with fail
          refine bodyPost_ret (v:=.tuple #[.int .i64 0,.int .i64 0,.agg #[.int .i64 ((q:Int)),.int .i64 (5)]]) (by simp [results,Tryz.results142,go_sem,m0,m1]) rfl ⟨by rw [HF.out];simp [UD],HB9.out⟩
        ·have dlo:decide (v2<v)=false:=jF hlo
         have HF:Hid (Jd s a=Q7 s v v2 j2):=j0 (by
          have hM:jv s v q=(v2,0,j2):=by rw [HM.out,if_neg (fun h=>hlo h.2)]
          rw [HBR.out,hM,if_neg (by simp)])
         have HW4:=j0 (HW3.out.put (j2:Int) 0);obtain⟨⟨y0,y1⟩,⟨k0,k1⟩,hy⟩:=HW3.out.it;clear HBR HM hlo herr2
         go_wp2_with fail
         go_meet
         exact⟨v2,j2,rfl,hj2,HW4,HF⟩
       ·have HF:Hid (Jd s a=(0,0,c2,j2)):=j0 (by
         have hM:jv s v q=(v2,c2,j2):=by rw [HM.out,if_neg (fun h=>hd0 h.1)]
         rw [HBR.out,hM,if_pos hd0])
        have HX3:Hid (BrW w W3 b11 j2 c2):=j0 ⟨HW3.out.en,HE3.out,by omega,HW3.out.bel⟩;clear HBR HM hd0 herr2
        go_wp2_with fail
        refine Reg.wp_region_S (brErr (j2:Int) c2) (BrS w b11 (j2:Int) c2 (j2:Int) c2 3) [0,1,2,3] (by rfl) (by kernel_rfl) (by kernel_rfl) ?_ ?_ ?_
        ·exact⟨⟨HX3.out.en.at_,HX3.out.en.free,HX3.out.en.lt⟩,⟨HX3.out.it.at_,HX3.out.it.free,HX3.out.it.lt⟩,HX3.out.ne,⟨HX3.out.bel.os,HX3.out.bel.tape,HX3.out.bel.output,HX3.out.bel.size,HX3.out.bel.block⟩⟩
        ·refine Reg.oS (fun listed A X hI hin hun hall HS=> ?_) ?_
         ·have e11:=hI.wo 11 rfl;obtain⟨⟨z0,z1⟩,⟨l0,l1⟩,hz⟩:=HS.it;clear hI hall
          go_simp
          exact⟨rfl,HS.same (by decide)⟩
         iterate 2
          refine Reg.oS (fun listed A X hI hin hun hall HS=> ?_) ?_
          ·clear hI hall
           go_simp
           exact⟨rfl,HS.same (by decide)⟩
         refine Reg.oS (fun listed A X hI hin hun hall HS=> ?_) ?_
         ·have e6:=hI.wo 6 rfl;have e61:A.tmps[61]? =some (.agg #[.int .i64 (j2:Int),.int .i64 c2]):=hI.v hall 0 61;obtain⟨⟨u0,u1⟩,⟨v0,v1⟩,hu⟩:=HS.en;have HS3:=j0 (HS.put hin);clear HS;clear hI hall
          go_simp
          exact⟨rfl,HS3.out⟩
         trivial
        ·intro W9 hS;have hen:je W9 w.heap.size ((j2:Int)) (c2):=hS.en;have HB9:=j0 hS.bel;obtain⟨⟨m0,m1⟩,_,_⟩:=hen;clear hS;simp [Reg.finalTmps,Reg.dstAt,Reg.valOf,brErr]
         go_wp2_with fail
         refine bodyPost_ret (v:=.tuple #[.int .i64 0,.int .i64 0,.agg #[.int .i64 ((j2:Int)),.int .i64 (c2)]]) (by simp [results,Tryz.results142,go_sem,m0,m1]) rfl ⟨by rw [HF.out];simp [UD],HB9.out⟩
    ·rw [jF h44];have HF:Hid (Jd s a=Q7 s v v j):=j0 (by rw [HBR.out,if_neg h44]);clear h44 HBR
     go_wp2_with fail
     go_meet
     exact⟨v,j,rfl,hj,HW,HF⟩
   case rest=>
    clear HW HBR hj;obtain⟨hi,jj,rfl,hjj,HW,HBR⟩:=hcut
    go_upto_region 16 with fail
    go_cut [81] (fun x wx=>x=.bool (!decide (jl s jj=125))/\wx=wc)
    case first=>
     obtain⟨⟨z0,z1⟩,⟨l0,l1⟩,hz⟩:=HW.out.it
     by_cases hlt:jj<s.size
     ·have d1:decide (s.size<=jj)=false:=jF (by omega)
      by_cases hch:jl s jj=125
      ·have hc:(((s[jj]'hlt).toNat:Int) !=125)=false:=by rw [jy hlt] at hch;simp [hch]
       have HD:=j0 (jT hch);clear hch
       go_wp2_with fail
       go_meet
       exact⟨by rw [HD.out]<;>rfl,rfl⟩
      ·have hc:(((s[jj]'hlt).toNat:Int) !=125)=true:=by rw [jy hlt] at hch;simp;omega
       have HD:=j0 (jF hch);clear hch
       go_wp2_with fail
       go_meet
       exact⟨by rw [HD.out]<;>rfl,rfl⟩
     ·have d1:decide (s.size<=jj)=true:=jT (by omega);have hch:¬jl s jj=125:=by rw [qr (by omega)];decide
      have HD:=j0 (jF hch);clear hch
      go_wp2_with fail
      go_meet
      exact⟨by rw [HD.out]<;>rfl,rfl⟩
    case rest=>
     obtain⟨rfl,rfl⟩:=hcut
     by_cases h125:jl s jj=125
     ·rw [jT h125];have HF:Hid (Jd s a=(v,hi,0,jj+1)):=j0 (by rw [HBR.out];unfold Q7;rw [if_pos h125]);have hjj1:=ka h125 (by omega);have ejj:IntKind.i64.wrap ((jj:Int)+1)=(jj:Int)+1:=by simp [IntKind.wrap,IntKind.signed,IntKind.bits];omega
      clear h125 HBR
      go_wp2_with fail
      refine Reg.wp_region_S (brEnd v hi b8 (jj:Int)) (BrS w b8 (jj:Int) 0 ((jj:Int)+1) 0 8) [0,1,2,3,4,5,6,7,8] (by rfl) (by kernel_rfl) (by kernel_rfl) ?_ ?_ ?_
      ·exact⟨⟨HW.out.en.at_,HW.out.en.free,HW.out.en.lt⟩,⟨HW.out.it.at_,HW.out.it.free,HW.out.it.lt⟩,HW.out.ne,⟨HW.out.bel.os,HW.out.bel.tape,HW.out.bel.output,HW.out.bel.size,HW.out.bel.block⟩⟩
      ·iterate 3
        refine Reg.oS (fun listed A X hI hin hun hall HS=> ?_) ?_
        ·have E:=hI.tf hun hall JK;simp only [Reg.TF,JK,Reg.la,Reg.lb,Reg.lc] at E;clear hI hall
         go_simp
         exact⟨rfl,HS.same (by decide)⟩
       refine Reg.oS (fun listed A X hI hin hun hall HS=> ?_) ?_
       ·have e87:A.tmps[87]? =some (.pointer (some ⟨b8,0,none⟩)):=hI.v hall 2 87;obtain⟨⟨z0,z1⟩,⟨l0,l1⟩,hz⟩:=HS.it;clear hI hall
        go_simp
        exact⟨rfl,HS.same (by decide)⟩
       iterate 4
        refine Reg.oS (fun listed A X hI hin hun hall HS=> ?_) ?_
        ·have E:=hI.tf hun hall JK;simp only [Reg.TF,JK,brEnd] at E;clear hI hall
         go_simp
         exact⟨rfl,HS.same (by decide)⟩
       refine Reg.oS (fun listed A X hI hin hun hall HS=> ?_) ?_
       ·have e6:=hI.wo 6 rfl;have e90:A.tmps[90]? =some (.agg #[.int .i64 ((jj:Int)+1),.int .i64 0]):=hI.v hall 5 90;obtain⟨⟨u0,u1⟩,⟨v0,v1⟩,hu⟩:=HS.en;have HS3:=j0 (HS.put hin);clear HS;clear hI hall
        go_simp
        exact⟨rfl,HS3.out⟩
       trivial
      ·intro W9 hS;have hen:je W9 w.heap.size (((jj:Int)+1)) (0):=hS.en;have HB9:=j0 hS.bel;obtain⟨⟨m0,m1⟩,_,_⟩:=hen;clear hS;simp [Reg.finalTmps,Reg.dstAt,Reg.valOf,brEnd]
       go_wp2_with fail
       refine bodyPost_ret (v:=.tuple #[.int .i64 v,.int .i64 hi,.agg #[.int .i64 (((jj:Int)+1)),.int .i64 (0)]]) (by simp [results,Tryz.results142,go_sem,m0,m1]) rfl ⟨by rw [HF.out];simp [UD],HB9.out⟩
     ·rw [jF h125];have HF:Hid (Jd s a=(0,0,4,jj)):=j0 (by rw [HBR.out];unfold Q7;rw [if_neg h125]);clear h125 HBR
      go_wp2_with fail
      refine Reg.wp_region_S (brOwn b8 (jj:Int) 4) (BrS w b8 (jj:Int) 0 (jj:Int) 4 5) [0,1,2,3,4,5] (by rfl) (by kernel_rfl) (by kernel_rfl) ?_ ?_ ?_
      ·exact⟨⟨HW.out.en.at_,HW.out.en.free,HW.out.en.lt⟩,⟨HW.out.it.at_,HW.out.it.free,HW.out.it.lt⟩,HW.out.ne,⟨HW.out.bel.os,HW.out.bel.tape,HW.out.bel.output,HW.out.bel.size,HW.out.bel.block⟩⟩
      ·refine Reg.oS (fun listed A X hI hin hun hall HS=> ?_) ?_
       ·have e8:=hI.wo 8 rfl;clear hI hall
        go_simp
        exact⟨rfl,HS.same (by decide)⟩
       refine Reg.oS (fun listed A X hI hin hun hall HS=> ?_) ?_
       ·have e82:A.tmps[82]? =some (.pointer (some ⟨b8,0,none⟩)):=hI.v hall 0 82;obtain⟨⟨z0,z1⟩,⟨l0,l1⟩,hz⟩:=HS.it;clear hI hall
        go_simp
        exact⟨rfl,HS.same (by decide)⟩
       refine Reg.oS (fun listed A X hI hin hun hall HS=> ?_) ?_
       ·have e83:A.tmps[83]? =some (.int .i64 (jj:Int)):=hI.v hall 1 83;clear hI hall
        go_simp
        exact⟨rfl,HS.same (by decide)⟩
       iterate 2
        refine Reg.oS (fun listed A X hI hin hun hall HS=> ?_) ?_
        ·clear hI hall
         go_simp
         exact⟨rfl,HS.same (by decide)⟩
       refine Reg.oS (fun listed A X hI hin hun hall HS=> ?_) ?_
       ·have e6:=hI.wo 6 rfl;have e84:A.tmps[84]? =some (.agg #[.int .i64 (jj:Int),.int .i64 4]):=hI.v hall 2 84;obtain⟨⟨u0,u1⟩,⟨v0,v1⟩,hu⟩:=HS.en;have HS3:=j0 (HS.put hin);clear HS;clear hI hall
        go_simp
        exact⟨rfl,HS3.out⟩
       trivial
      ·intro W9 hS;have hen:je W9 w.heap.size ((jj:Int)) (4):=hS.en;have HB9:=j0 hS.bel;obtain⟨⟨m0,m1⟩,_,_⟩:=hen;clear hS;simp [Reg.finalTmps,Reg.dstAt,Reg.valOf,brOwn]
       go_wp2_with fail
       refine bodyPost_ret (v:=.tuple #[.int .i64 0,.int .i64 0,.agg #[.int .i64 ((jj:Int)),.int .i64 (4)]]) (by simp [results,Tryz.results142,go_sem,m0,m1]) rfl ⟨by rw [HF.out];simp [UD],HB9.out⟩
 ·have HF:Hid (Jd s a=(0,0,c,j)):=j0 (by rw [HBR.out,if_pos hc0]);obtain⟨⟨z0,z1⟩,⟨l0,l1⟩,hz⟩:=HW.out.it;clear HBR hc0 herr
  go_wp2_with fail
  refine Reg.wp_region_S (brErr (j:Int) c) (BrS w b8 (j:Int) c (j:Int) c 3) [0,1,2,3] (by rfl) (by kernel_rfl) (by kernel_rfl) ?_ ?_ ?_
  ·exact⟨⟨HW.out.en.at_,HW.out.en.free,HW.out.en.lt⟩,⟨HW.out.it.at_,HW.out.it.free,HW.out.it.lt⟩,HW.out.ne,⟨HW.out.bel.os,HW.out.bel.tape,HW.out.bel.output,HW.out.bel.size,HW.out.bel.block⟩⟩
  ·refine Reg.oS (fun listed A X hI hin hun hall HS=> ?_) ?_
   ·have e8:=hI.wo 8 rfl;obtain⟨⟨z0,z1⟩,⟨l0,l1⟩,hz⟩:=HS.it;clear hI hall
    go_simp
    exact⟨rfl,HS.same (by decide)⟩
   iterate 2
    refine Reg.oS (fun listed A X hI hin hun hall HS=> ?_) ?_
    ·clear hI hall
     go_simp
     exact⟨rfl,HS.same (by decide)⟩
   refine Reg.oS (fun listed A X hI hin hun hall HS=> ?_) ?_
   ·have e6:=hI.wo 6 rfl;have e21:A.tmps[21]? =some (.agg #[.int .i64 (j:Int),.int .i64 c]):=hI.v hall 0 21;obtain⟨⟨u0,u1⟩,⟨v0,v1⟩,hu⟩:=HS.en;have HS3:=j0 (HS.put hin);clear HS;clear hI hall
    go_simp
    exact⟨rfl,HS3.out⟩
   trivial
  ·intro W9 hS;have hen:je W9 w.heap.size ((j:Int)) (c):=hS.en;have HB9:=j0 hS.bel;obtain⟨⟨m0,m1⟩,_,_⟩:=hen;clear hS;simp [Reg.finalTmps,Reg.dstAt,Reg.valOf,brErr]
   go_wp2_with fail
   refine bodyPost_ret (v:=.tuple #[.int .i64 0,.int .i64 0,.agg #[.int .i64 ((j:Int)),.int .i64 (c)]]) (by simp [results,Tryz.results142,go_sem,m0,m1]) rfl ⟨by rw [HF.out];simp [UD],HB9.out⟩
abbrev xg(t:jp)(i:Int):Obj:=.cells #[.int .i64 t.kind,.int .i64 i,.int .i64 0,.int .u64 t.set.a,.int .u64 t.set.b,.int .u64 t.set.c,.int .u64 t.set.d,.int .i64 t.lo,.int .i64 t.hi,.bool t.lazy] 176
theorem ji{W:World}{b:Nat}{t:jp}{i:Int}(h:W.heap[b]? =some (xg t i)):
  (W.cell? ⟨b,0,none⟩=some (.int .i64 t.kind)/\W.cell? ⟨b,1,none⟩=some (.int .i64 i)/\W.cell? ⟨b,2,none⟩=some (.int .i64 0)/\W.cell? ⟨b,3,none⟩=some (.int .u64 t.set.a)/\W.cell? ⟨b,4,none⟩=some (.int .u64 t.set.b)/\
  W.cell? ⟨b,5,none⟩=some (.int .u64 t.set.c)/\W.cell? ⟨b,6,none⟩=some (.int .u64 t.set.d)/\W.cell? ⟨b,7,none⟩=some (.int .i64 t.lo)/\W.cell? ⟨b,8,none⟩=some (.int .i64 t.hi)/\W.cell? ⟨b,9,none⟩=some (.bool t.lazy))/\b<W.heap.size:=
 ⟨⟨jC h 0,jC h 1,jC h 2,jC h 3,jC h 4,jC h 5,jC h 6,jC h 7,jC h 8,jC h 9⟩,jS h⟩
theorem jX{W:World}{b:Nat}{t:jp}{i:Int}(h:W.heap[b]? =some (xg t i)):
  (W.frozen? ⟨b,0,none⟩=false/\W.frozen? ⟨b,1,none⟩=false/\W.frozen? ⟨b,2,none⟩=false/\W.frozen? ⟨b,3,none⟩=false/\W.frozen? ⟨b,4,none⟩=false/\
  W.frozen? ⟨b,5,none⟩=false/\W.frozen? ⟨b,6,none⟩=false/\W.frozen? ⟨b,7,none⟩=false/\W.frozen? ⟨b,8,none⟩=false/\W.frozen? ⟨b,9,none⟩=false)/\b<W.heap.size:=
 ⟨⟨jU h 0,jU h 1,jU h 2,jU h 3,jU h 4,jU h 5,jU h 6,jU h 7,jU h 8,jU h 9⟩,jS h⟩
abbrev Jk(w:World)(b:Nat)(t:jp)(i:Int):World:=
 (((((((((w.setCell ⟨b,0,none⟩ (.int .i64 t.kind)).setCell ⟨b,1,none⟩ (.int .i64 i)).setCell ⟨b,2,none⟩ (.int .i64 0)).setCell ⟨b,3,none⟩ (.int .u64 t.set.a)).setCell ⟨b,4,none⟩ (.int .u64 t.set.b)).setCell ⟨b,5,none⟩ (.int .u64 t.set.c)).setCell ⟨b,6,none⟩ (.int .u64 t.set.d)).setCell ⟨b,7,none⟩ (.int .i64 t.lo)).setCell ⟨b,8,none⟩ (.int .i64 t.hi)).setCell ⟨b,9,none⟩ (.bool t.lazy)
theorem rt_put{w:World}{b:Nat}{t t':jp}{i i':Int}(h:w.heap[b]? =some (xg t i)):(Jk w b t' i').heap[b]? =some (xg t' i'):=
 (Joins.block_setCell (i:=9) (Joins.block_setCell (i:=8) (Joins.block_setCell (i:=7) (Joins.block_setCell (i:=6) (Joins.block_setCell (i:=5) (Joins.block_setCell (i:=4) (Joins.block_setCell (i:=3) (Joins.block_setCell (i:=2) (Joins.block_setCell (i:=1) (Joins.block_setCell (i:=0) h (.int .i64 t'.kind)) (.int .i64 i')) (.int .i64 0)) (.int .u64 t'.set.a)) (.int .u64 t'.set.b)) (.int .u64 t'.set.c)) (.int .u64 t'.set.d)) (.int .i64 t'.lo)) (.int .i64 t'.hi)) (.bool t'.lazy)).trans (by simp)
theorem kh{w:World}{b b' o:Nat}(v:Value)(h:b'≠b):(w.setCell ⟨b,o,none⟩ v).heap[b']? =w.heap[b']? :=Below.heap_setCell _ _ _ _ (by simpa using h)
theorem Qd(w:World)(a:Addr)(v:Value):(w.setCell a v).heap.size=w.heap.size:=by simp [World.setCell]
theorem Ql{w:World}{b b':Nat}(t:jp)(i:Int)(h:b'≠b):(Jk w b t i).heap[b']? =w.heap[b']? :=by
 unfold Jk;rw [kh _ h,kh _ h,kh _ h,kh _ h,kh _ h,kh _ h,kh _ h,kh _ h,kh _ h,kh _ h]
theorem rt_size(w:World)(b:Nat)(t:jp)(i:Int):(Jk w b t i).heap.size=w.heap.size:=by unfold Jk;simp [World.setCell]
theorem zL{w:World}{b b':Nat}(x y:Int)(h:b'≠b):(jO w b x y).heap[b']? =w.heap[b']? :=by unfold jO;rw [kh _ h,kh _ h]
theorem Y5{B:Nat}{W X:World}(h:Below B W X){b:Nat}(hB:B<=b)(t:jp)(i:Int):Below B W (Jk X b t i):=
 (((((((((h.setCell (by simpa using hB) _).setCell (by simpa using hB) _).setCell (by simpa using hB) _).setCell (by simpa using hB) _).setCell (by simpa using hB) _).setCell (by simpa using hB) _).setCell (by simpa using hB) _).setCell (by simpa using hB) _).setCell (by simpa using hB) _).setCell (by simpa using hB) _
structure qS(w X:World)(t:jp)(k:Int)(x y:Int):Prop where
 tk:X.heap[w.heap.size]? =some (xg jg 0)
 en:je X (w.heap.size+1) 0 0
 se:je X (w.heap.size+1+1) x y
 st:X.heap[w.heap.size+1+1+1]? =some (xg t k)
 bel:Below w.heap.size w X
abbrev jV(w:World)(k:Int):World:=(((w.alloc (xg jg 0)).alloc yP).alloc (.cells #[.int .i64 (k+1),.int .i64 0] 177)).alloc (xg jg k)
theorem qm(w:World)(k:Int):qS w (jV w k) jg k (k+1) 0:=by
 obtain⟨x1,h1⟩:∃x,x=w.alloc (xg jg 0):=⟨_,rfl⟩;have n1:x1.heap.size=w.heap.size+1:=by rw [h1,World.size_alloc]
 have s1:x1.heap[w.heap.size]? =some (xg jg 0):=by rw [h1];exact j1 _ _
 have d1:Below w.heap.size w x1:=by rw [h1];exact j3 _ _
 obtain⟨x2,h2⟩:∃x,x=x1.alloc yP:=⟨_,rfl⟩;have n2:x2.heap.size=x1.heap.size+1:=by rw [h2,World.size_alloc]
 have s2:je x2 x1.heap.size 0 0:=by rw [h2];exact je.of (j1 _ _)
 have d2:Below x1.heap.size x1 x2:=by rw [h2];exact j3 _ _
 obtain⟨x3,h3⟩:∃x,x=x2.alloc (.cells #[.int .i64 (k+1),.int .i64 0] 177):=⟨_,rfl⟩;have n3:x3.heap.size=x2.heap.size+1:=by rw [h3,World.size_alloc]
 have s3:je x3 x2.heap.size (k+1) 0:=by rw [h3];exact je.of (j1 _ _)
 have d3:Below x2.heap.size x2 x3:=by rw [h3];exact j3 _ _
 obtain⟨x4,h4⟩:∃x,x=x3.alloc (xg jg k):=⟨_,rfl⟩;have s4:x4.heap[x3.heap.size]? =some (xg jg k):=by rw [h4];exact j1 _ _
 have d4:Below x3.heap.size x3 x4:=by rw [h4];exact j3 _ _
 unfold jV;rw [<-h1,<-h2,<-h3,<-h4];have e1:w.heap.size+1+1+1=x3.heap.size:=by omega
 have e2:w.heap.size+1+1=x2.heap.size:=by omega
 have e3:w.heap.size+1=x1.heap.size:=by omega
 have b2:=d1.trans (d2.mono d1.size);have b3:=b2.trans (d3.mono b2.size);exact⟨j4 d4 (j4 d3 (j4 d2 s1)),by rw [e3];exact(s2.below d3).below d4,by rw [e2];exact s3.below d4,by rw [e1];exact s4,b3.trans (d4.mono b3.size)⟩
theorem qS.below{w X Y:World}{t:jp}{k x y:Int}(h:qS w X t k x y)(hb:Below X.heap.size X Y):qS w Y t k x y:=⟨j4 hb h.tk,h.en.below hb,h.se.below hb,j4 hb h.st,h.bel.trans (hb.mono h.bel.size)⟩
theorem qS.cell{w X:World}{t t':jp}{k x y:Int}(h:qS w X t k x y)(o:Nat)(v:Value)(e:(xg t' k)=.cells (#[.int .i64 t.kind,.int .i64 k,.int .i64 0,.int .u64 t.set.a,.int .u64 t.set.b,.int .u64 t.set.c,.int .u64 t.set.d,.int .i64 t.lo,.int .i64 t.hi,.bool t.lazy].setIfInBounds o v) 176):
  qS w (X.setCell ⟨w.heap.size+1+1+1,o,none⟩ v) t' k x y:=by
 have hs:X.heap.size<=(X.setCell ⟨w.heap.size+1+1+1,o,none⟩ v).heap.size:=Nat.le_of_eq (Qd _ _ _).symm;refine⟨?_,h.en.same (kh _ (by omega)) hs,h.se.same (kh _ (by omega)) hs,?_,h.bel.setCell (by simp;omega) _⟩
 ·rw [kh _ (by omega)];exact h.tk
 ·rw [e];exact Joins.block_setCell h.st v
theorem qS.endAt{w X:World}{t:jp}{k x y:Int}(h:qS w X t k x y)(x' y':Int):qS w (jO X (w.heap.size+1+1) x' y') t k x' y':=by
 refine⟨?_,h.en.other (by omega),h.se.put x' y',?_,(h.bel.setCell (by simp;omega) _).setCell (by simp;omega) _⟩
 ·rw [zL _ _ (by omega)];exact h.tk
 ·rw [zL _ _ (by omega)];exact h.st
theorem qS.at_{w X:World}{t:jp}{k x y:Int}(h:qS w X t k x y)(x':Int):qS w (X.setCell ⟨w.heap.size+1+1,0,none⟩ (.int .i64 x')) t k x' y:=by
 have hs:X.heap.size<=(X.setCell ⟨w.heap.size+1+1,0,none⟩ (.int .i64 x')).heap.size:=Nat.le_of_eq (Qd _ _ _).symm;refine⟨?_,h.en.same (kh _ (by omega)) hs,h.se.first x',?_,h.bel.setCell (by simp;omega) _⟩
 ·rw [kh _ (by omega)];exact h.tk
 ·rw [kh _ (by omega)];exact h.st
theorem je.second{X:World}{b:Nat}{x y:Int}(h:je X b x y)(z:Int):je (X.setCell ⟨b,1,none⟩ (.int .i64 z)) b x z:=by
 obtain⟨⟨z0,z1⟩,⟨f0,f1⟩,lt⟩:=h;refine⟨⟨?_,?_⟩,⟨?_,?_⟩,by simpa [World.setCell] using lt⟩<;>simp [go_sem, *]
theorem qS.er{w X:World}{t:jp}{k x y:Int}(h:qS w X t k x y)(y':Int):qS w (X.setCell ⟨w.heap.size+1+1,1,none⟩ (.int .i64 y')) t k x y':=by
 have hs:X.heap.size<=(X.setCell ⟨w.heap.size+1+1,1,none⟩ (.int .i64 y')).heap.size:=Nat.le_of_eq (Qd _ _ _).symm;refine⟨?_,h.en.same (kh _ (by omega)) hs,h.se.second y',?_,h.bel.setCell (by simp;omega) _⟩
 ·rw [kh _ (by omega)];exact h.tk
 ·rw [kh _ (by omega)];exact h.st
abbrev K8(w:World)(b:Nat)(u:W4):World:=(((w.setCell ⟨b,3,none⟩ (.int .u64 u.a)).setCell ⟨b,4,none⟩ (.int .u64 u.b)).setCell ⟨b,5,none⟩ (.int .u64 u.c)).setCell ⟨b,6,none⟩ (.int .u64 u.d)
theorem qS.set{w X:World}{t:jp}{k x y:Int}(h:qS w X t k x y)(u:W4):qS w (K8 X (w.heap.size+1+1+1) u) ⟨t.kind,u,t.lo,t.hi,t.lazy⟩ k x y:=
 (((h.cell (t':=⟨t.kind,⟨u.a,t.set.b,t.set.c,t.set.d⟩,t.lo,t.hi,t.lazy⟩) 3 _ rfl).cell (t':=⟨t.kind,⟨u.a,u.b,t.set.c,t.set.d⟩,t.lo,t.hi,t.lazy⟩) 4 _ rfl).cell (t':=⟨t.kind,⟨u.a,u.b,u.c,t.set.d⟩,t.lo,t.hi,t.lazy⟩) 5 _ rfl).cell (t':=⟨t.kind,⟨u.a,u.b,u.c,u.d⟩,t.lo,t.hi,t.lazy⟩) 6 _ rfl
theorem qS.ret{w X:World}{t:jp}{k x y:Int}(h:qS w X t k x y)(t':jp)(x' y':Int):Below w.heap.size w (jO (Jk X w.heap.size t' k) (w.heap.size+1) x' y'):=
 ((Y5 h.bel (jN _) t' k).setCell (by simp) _).setCell (by simp) _
structure OneSr(w:World)(t:jp)(k x y:Int)(listed:Array Bool)(X:World):Prop where
 tk:∃u:jp,∃j:Int,X.heap[w.heap.size]? =some (xg u j)/\(listed.getD 2 false=true->u=t/\j=k)
 en:je X (w.heap.size+1) (if listed.getD 3 false=true then x else 0) (if listed.getD 3 false=true then y else 0)
 se:je X (w.heap.size+1+1) x y
 st:X.heap[w.heap.size+1+1+1]? =some (xg t k)
 bel:Below w.heap.size w X
theorem OneSr.same{w:World}{t:jp}{k x y:Int}{listed:Array Bool}{X:World}{i:Nat}(h:OneSr w t k x y listed X)(h2:i≠2)(h3:i≠3):OneSr w t k x y (listed.setIfInBounds i true) X:=by
 refine⟨?_,?_,h.se,h.st,h.bel⟩
 ·obtain⟨u,j,h1,h2'⟩:=h.tk;exact⟨u,j,h1,fun e=>h2' (by rwa [getD_set_ne false h2] at e)⟩
 ·rw [getD_set_ne false h3];exact h.en
theorem OneSr.put2{w:World}{t:jp}{k x y:Int}{listed:Array Bool}{X:World}(h:OneSr w t k x y listed X):OneSr w t k x y (listed.setIfInBounds 2 true) (Jk X w.heap.size t k):=by
 have hs:X.heap.size<=(Jk X w.heap.size t k).heap.size:=Nat.le_of_eq (rt_size _ _ _ _).symm;obtain⟨u,j,h1,h2⟩:=h.tk;refine⟨⟨t,k,rt_put h1,fun _=>⟨rfl,rfl⟩⟩,?_,h.se.same (Ql _ _ (by omega)) hs,?_,Y5 h.bel (jN _) _ _⟩
 ·rw [getD_set_ne false (by decide)];exact h.en.same (Ql _ _ (by omega)) hs
 ·rw [Ql _ _ (by omega)];exact h.st
theorem OneSr.put3{w:World}{t:jp}{k x y:Int}{listed:Array Bool}{X:World}(h:OneSr w t k x y listed X)(hin:3<listed.size):OneSr w t k x y (listed.setIfInBounds 3 true) (jO X (w.heap.size+1) x y):=by
 obtain⟨u,j,h1,h2⟩:=h.tk;refine⟨⟨u,j,?_,fun e=>h2 (by rwa [getD_set_ne false (by decide)] at e)⟩,?_,h.se.other (by omega),?_,(h.bel.setCell (by simp) _).setCell (by simp) _⟩
 ·rw [zL _ _ (by omega)];exact h1
 ·rw [if_pos (Reg.set_self hin),if_pos (Reg.set_self hin)];exact h.en.put x y
 ·rw [zL _ _ (by omega)];exact h.st
def kV(t:jp)(k x y:Int):Nat->Value
 |0=>.agg #[.int .i64 t.kind,.int .i64 k,.int .i64 0,.int .u64 t.set.a,.int .u64 t.set.b,.int .u64 t.set.c,.int .u64 t.set.d,.int .i64 t.lo,.int .i64 t.hi,.bool t.lazy]
 |1=>.agg #[.int .i64 x,.int .i64 y]
 |_=>undef
def OneOut(r:jp×Int×Nat)(k:Int)(e:Ending):Prop:=∃t:jp,e=.returned (.tuple #[.agg #[.int .i64 t.kind,.int .i64 k,.int .i64 0,.int .u64 t.set.a,.int .u64 t.set.b,.int .u64 t.set.c,.int .u64 t.set.d,.int .i64 t.lo,.int .i64 t.hi,.bool t.lazy],.agg #[.int .i64 (r.2.2:Int),.int .i64 r.2.1]])/\(r.2.1=0->t=r.1)
theorem oneOut{r:jp×Int×Nat}{t t':jp}{n:Nat}{x y k:Int}(h:r=(t',y,n))(hx:x=(n:Int))(ht:y=0->t=t'):OneOut r k (.returned (.tuple #[.agg #[.int .i64 t.kind,.int .i64 k,.int .i64 0,.int .u64 t.set.a,.int .u64 t.set.b,.int .u64 t.set.c,.int .u64 t.set.d,.int .i64 t.lo,.int .i64 t.hi,.bool t.lazy],.agg #[.int .i64 x,.int .i64 y]])):=by
 subst h hx;exact⟨t,rfl,ht⟩
theorem brS_le{s:ByteArray}{lo hi:Int}{j:Nat}(hj:j<=s.size):(Q7 s lo hi j).2.2.2<=s.size:=by
 unfold Q7
 split
 ·next h=>exact ka h (by omega)
 ·exact hj
theorem brR_le{s:ByteArray}{a:Nat}(ha:a<=s.size):(Jd s a).2.2.2<=s.size:=by
 have h1:=(Js ha).2;unfold Jd
 split
 ·exact h1
 ·split
  ·next h44=>
   have h2:=(Xr (s:=s) (jr s a).1 (a:=(jr s a).2.2+1) (ka h44 (by omega))).2
   split
   ·exact h2
   ·exact brS_le h2
  ·exact brS_le h1
def J9(b:Nat):Bool:= [42,43,63,123].contains b
abbrev kN:ByteArray:=⟨#[42,43,63,123]⟩
theorem qn(c:Nat)(hc:c<256):Za kN c 4=J9 c:=by
 have hall:∀n:Fin 256,Za kN n.val 4=J9 n.val:=by decide+kernel
 exact hall ⟨c,hc⟩
def tokC(s:ByteArray)(k c:Nat):jp×Int×Nat:=
 if c=124 then(⟨4,j7,0,0,false⟩,0,k+1) else if c=40 then vx s k else if c=41 then(⟨3,j7,0,0,false⟩,0,k+1)
 else if c=42\/c=43\/c=63 then(if c=42 then jK s 0 (-1) (k+1) else if c=43 then jK s 1 (-1) (k+1) else jK s 0 1 (k+1)) else if c=123 then kA s k
 else(⟨0,(if c=91 then kH s k else if c=92 then kX s k else if c=46 then(km (jh 10),0,k+1) else if c=94\/c=36 then(j7,6,k) else if c=93\/c=125 then(j7,4,k) else(jh c,0,k+1)).1,0,0,false⟩,
  (if c=91 then kH s k else if c=92 then kX s k else if c=46 then(km (jh 10),0,k+1) else if c=94\/c=36 then(j7,6,k) else if c=93\/c=125 then(j7,4,k) else(jh c,0,k+1)).2.1,
  (if c=91 then kH s k else if c=92 then kX s k else if c=46 then(km (jh 10),0,k+1) else if c=94\/c=36 then(j7,6,k) else if c=93\/c=125 then(j7,4,k) else(jh c,0,k+1)).2.2)
theorem qI(s:ByteArray)(k:Nat):jd s k=tokC s k (jl s k):=rfl
theorem YK(s:ByteArray)(k:Nat)(hk:k<s.size)(hs:s.size<=1099511627776)(w:World)(hc:jl s k=92):
  Calls Tryz.prog 94 #[.string s,.int .i64 (k:Int)] w fun e w'=>OneOut (jd s k) (k:Int) e/\Below w.heap.size w w':=by
 have hb:((s[k]'hk).toNat)=jl s k:=(jy hk).symm;have hcl:jl s k<256:=qk hk;have HTK:=j0 (qI s k);generalize jl s k=c at*;have IN:=j0 (fun W=>kJ kN c (by decide) W);rw [show kN.size=4 from rfl,qn c hcl] at IN;have HW:=j0 (qm w (k:Int));subst hc
 go_enter Tryz.func94,Tryz.ntmps94
 go_upto_if 18 with fail
 change Code.wp _ _ _ _ (jV w (k:Int));generalize jV w (k:Int)=W at*;have HF0:Hid (jd s k=(⟨0,(kX s k).1,0,0,false⟩,(kX s k).2.1,(kX s k).2.2)):=j0 (by rw [HTK.out];rfl);have CT:=j0 (fun W=>Qq s k hk hs W);clear HTK IN;obtain⟨r,hr⟩:∃r,r=kX s k:=⟨_,rfl⟩;rw [<-hr] at CT HF0;clear hr;obtain⟨u,y,x⟩:=r;have CT:Hid (∀W,Calls Tryz.prog 138 #[.string s,.int .i64 (k:Int)] W fun e w'=>e=.returned (.tuple #[kd u,.agg #[.int .i64 (x:Int),.int .i64 y]])/\Below W.heap.size W w'):=CT;have HF:Hid (jd s k=(⟨0,u,0,0,false⟩,y,x)):=HF0
 go_wp2_with fail
 refine(CT.out _).mono ?_;rintro e w2 ⟨rfl,hb2⟩;have HW2:=j0 (HW.out.below hb2);have HW3:Hid (qS w (jO (K8 w2 (w.heap.size+1+1+1) u) (w.heap.size+1+1) (x:Int) y) ⟨0,u,0,0,false⟩ (k:Int) (x:Int) y):=j0 ((HW2.out.set u).endAt (x:Int) y);obtain⟨⟨v0,v1,v2,v3,v4,v5,v6,v7,v8,v9⟩,hu⟩:=jX HW2.out.st;obtain⟨⟨y0,y1,y2,y3,y4,y5,y6,y7,y8,y9⟩,_⟩:=ji HW2.out.st;obtain⟨⟨z0,z1⟩,⟨l0,l1⟩,hz⟩:=HW2.out.se;clear hb2 CT HW HW2 HF0;unfold kd
 go_wp2_with fail
 obtain⟨W3,hW3⟩:∃X,X=jO (K8 w2 (w.heap.size+1+1+1) u) (w.heap.size+1+1) (x:Int) y:=⟨_,rfl⟩;rw [<-hW3] at HW3;change Code.wp _ _ _ _ (jO (K8 w2 (w.heap.size+1+1+1) u) (w.heap.size+1+1) (x:Int) y);rw [<-hW3];clear hW3;have HF2:=j0 (oneOut (t:=⟨0,u,0,0,false⟩) (k:=(k:Int)) (x:=(x:Int)) HF.out (by omega) (fun _=>rfl));have HX:=HW3;clear HF HW3;generalize (⟨0,u,0,0,false⟩:jp)=tt at HF2 HX
 go_wp2_with fail
 refine Reg.wp_region_S (kV tt (k:Int) (x:Int) y) (OneSr w tt (k:Int) (x:Int) y) [0,1,2,3] (by rfl) (by kernel_rfl) (by kernel_rfl) ?_ ?_ ?_
 ·exact⟨⟨jg,0,HX.out.tk,fun e=>by simp at e⟩,⟨HX.out.en.at_,HX.out.en.free,HX.out.en.lt⟩,⟨HX.out.se.at_,HX.out.se.free,HX.out.se.lt⟩,HX.out.st,⟨HX.out.bel.os,HX.out.bel.tape,HX.out.bel.output,HX.out.bel.size,HX.out.bel.block⟩⟩
 ·refine Reg.oS (fun listed A X hI hin hun hall HS=> ?_) ?_
  ·have e8:=hI.wo 8 rfl;obtain⟨⟨z0,z1,z2,z3,z4,z5,z6,z7,z8,z9⟩,hz⟩:=ji HS.st;clear hI hall
   go_simp
   exact⟨rfl,HS.same (by decide) (by decide)⟩
  refine Reg.oS (fun listed A X hI hin hun hall HS=> ?_) ?_
  ·have e7:=hI.wo 7 rfl;obtain⟨⟨z0,z1⟩,⟨l0,l1⟩,hz⟩:=HS.se;clear hI hall
   go_simp
   exact⟨rfl,HS.same (by decide) (by decide)⟩
  refine Reg.oS (fun listed A X hI hin hun hall HS=> ?_) ?_
  ·have e4:=hI.wo 4 rfl;have e27:A.tmps[27]? =some (.agg #[.int .i64 (tt).kind,.int .i64 (k:Int),.int .i64 0,.int .u64 (tt).set.a,.int .u64 (tt).set.b,.int .u64 (tt).set.c,.int .u64 (tt).set.d,.int .i64 (tt).lo,.int .i64 (tt).hi,.bool (tt).lazy]):=hI.v hall 0 27;obtain⟨tu,ju,hu1,hu2⟩:=HS.tk;obtain⟨⟨v0,v1,v2,v3,v4,v5,v6,v7,v8,v9⟩,hu⟩:=jX hu1;obtain⟨⟨y0,y1,y2,y3,y4,y5,y6,y7,y8,y9⟩,_⟩:=ji hu1;have HS3:=j0 HS.put2;clear HS hu1 hu2;clear hI hall
   go_simp
   exact⟨rfl,HS3.out⟩
  refine Reg.oS (fun listed A X hI hin hun hall HS=> ?_) ?_
  ·have e5:=hI.wo 5 rfl;have e28:A.tmps[28]? =some (.agg #[.int .i64 (x:Int),.int .i64 y]):=hI.v hall 1 28;obtain⟨⟨u0,u1⟩,⟨v0,v1⟩,hu⟩:=HS.en;have HS3:=j0 (HS.put3 hin);clear HS;clear hI hall
   go_simp
   exact⟨rfl,HS3.out⟩
  trivial
 ·intro W9 hS;obtain⟨tu,ju,hu1,hu2⟩:=hS.tk;obtain⟨rfl,rfl⟩:=hu2 (by rfl);have hen:je W9 (w.heap.size+1) (x:Int) y:=hS.en;have HB9:=j0 hS.bel;obtain⟨⟨v0,v1,v2,v3,v4,v5,v6,v7,v8,v9⟩,_⟩:=ji hu1;obtain⟨⟨m0,m1⟩,_,_⟩:=hen;clear hS HX hu1 hu2;simp [Reg.finalTmps,Reg.dstAt,Reg.valOf,kV]
  go_wp2_with fail
  refine bodyPost_ret (v:=.tuple #[.agg #[.int .i64 (tu).kind,.int .i64 (k:Int),.int .i64 0,.int .u64 (tu).set.a,.int .u64 (tu).set.b,.int .u64 (tu).set.c,.int .u64 (tu).set.d,.int .i64 (tu).lo,.int .i64 (tu).hi,.bool (tu).lazy],.agg #[.int .i64 (x:Int),.int .i64 y]]) (by simp [results,Tryz.results94,go_sem,v0,v1,v2,v3,v4,v5,v6,v7,v8,v9,m0,m1]) rfl ⟨HF2.out,HB9.out⟩
theorem YM(s:ByteArray)(k:Nat)(hk:k<s.size)(hs:s.size<=1099511627776)(w:World)(hc:jl s k=91):
  Calls Tryz.prog 94 #[.string s,.int .i64 (k:Int)] w fun e w'=>OneOut (jd s k) (k:Int) e/\Below w.heap.size w w':=by
 have hb:((s[k]'hk).toNat)=jl s k:=(jy hk).symm;have hcl:jl s k<256:=qk hk;have HTK:=j0 (qI s k);generalize jl s k=c at*;have IN:=j0 (fun W=>kJ kN c (by decide) W);rw [show kN.size=4 from rfl,qn c hcl] at IN;have HW:=j0 (qm w (k:Int));subst hc
 go_enter Tryz.func94,Tryz.ntmps94
 go_upto_if 18 with fail
 change Code.wp _ _ _ _ (jV w (k:Int));generalize jV w (k:Int)=W at*;have HF0:Hid (jd s k=(⟨0,(kH s k).1,0,0,false⟩,(kH s k).2.1,(kH s k).2.2)):=j0 (by rw [HTK.out];rfl);have CT:=j0 (fun W=>V9 s k hk hs W);clear HTK IN;obtain⟨r,hr⟩:∃r,r=kH s k:=⟨_,rfl⟩;rw [<-hr] at CT HF0;clear hr;obtain⟨u,y,x⟩:=r;have CT:Hid (∀W,Calls Tryz.prog 139 #[.string s,.int .i64 (k:Int)] W fun e w'=>e=.returned (.tuple #[kd u,.agg #[.int .i64 (x:Int),.int .i64 y]])/\Below W.heap.size W w'):=CT;have HF:Hid (jd s k=(⟨0,u,0,0,false⟩,y,x)):=HF0
 go_wp2_with fail
 refine(CT.out _).mono ?_;rintro e w2 ⟨rfl,hb2⟩;have HW2:=j0 (HW.out.below hb2);have HW3:Hid (qS w (jO (K8 w2 (w.heap.size+1+1+1) u) (w.heap.size+1+1) (x:Int) y) ⟨0,u,0,0,false⟩ (k:Int) (x:Int) y):=j0 ((HW2.out.set u).endAt (x:Int) y);obtain⟨⟨v0,v1,v2,v3,v4,v5,v6,v7,v8,v9⟩,hu⟩:=jX HW2.out.st;obtain⟨⟨y0,y1,y2,y3,y4,y5,y6,y7,y8,y9⟩,_⟩:=ji HW2.out.st;obtain⟨⟨z0,z1⟩,⟨l0,l1⟩,hz⟩:=HW2.out.se;clear hb2 CT HW HW2 HF0;unfold kd
 go_wp2_with fail
 obtain⟨W3,hW3⟩:∃X,X=jO (K8 w2 (w.heap.size+1+1+1) u) (w.heap.size+1+1) (x:Int) y:=⟨_,rfl⟩;rw [<-hW3] at HW3;change Code.wp _ _ _ _ (jO (K8 w2 (w.heap.size+1+1+1) u) (w.heap.size+1+1) (x:Int) y);rw [<-hW3];clear hW3;have HF2:=j0 (oneOut (t:=⟨0,u,0,0,false⟩) (k:=(k:Int)) (x:=(x:Int)) HF.out (by omega) (fun _=>rfl));have HX:=HW3;clear HF HW3;generalize (⟨0,u,0,0,false⟩:jp)=tt at HF2 HX
 go_wp2_with fail
 refine Reg.wp_region_S (kV tt (k:Int) (x:Int) y) (OneSr w tt (k:Int) (x:Int) y) [0,1,2,3] (by rfl) (by kernel_rfl) (by kernel_rfl) ?_ ?_ ?_
 ·exact⟨⟨jg,0,HX.out.tk,fun e=>by simp at e⟩,⟨HX.out.en.at_,HX.out.en.free,HX.out.en.lt⟩,⟨HX.out.se.at_,HX.out.se.free,HX.out.se.lt⟩,HX.out.st,⟨HX.out.bel.os,HX.out.bel.tape,HX.out.bel.output,HX.out.bel.size,HX.out.bel.block⟩⟩
 ·refine Reg.oS (fun listed A X hI hin hun hall HS=> ?_) ?_
  ·have e8:=hI.wo 8 rfl;obtain⟨⟨z0,z1,z2,z3,z4,z5,z6,z7,z8,z9⟩,hz⟩:=ji HS.st;clear hI hall
   go_simp
   exact⟨rfl,HS.same (by decide) (by decide)⟩
  refine Reg.oS (fun listed A X hI hin hun hall HS=> ?_) ?_
  ·have e7:=hI.wo 7 rfl;obtain⟨⟨z0,z1⟩,⟨l0,l1⟩,hz⟩:=HS.se;clear hI hall
   go_simp
   exact⟨rfl,HS.same (by decide) (by decide)⟩
  refine Reg.oS (fun listed A X hI hin hun hall HS=> ?_) ?_
  ·have e4:=hI.wo 4 rfl;have e38:A.tmps[38]? =some (.agg #[.int .i64 (tt).kind,.int .i64 (k:Int),.int .i64 0,.int .u64 (tt).set.a,.int .u64 (tt).set.b,.int .u64 (tt).set.c,.int .u64 (tt).set.d,.int .i64 (tt).lo,.int .i64 (tt).hi,.bool (tt).lazy]):=hI.v hall 0 38;obtain⟨tu,ju,hu1,hu2⟩:=HS.tk;obtain⟨⟨v0,v1,v2,v3,v4,v5,v6,v7,v8,v9⟩,hu⟩:=jX hu1;obtain⟨⟨y0,y1,y2,y3,y4,y5,y6,y7,y8,y9⟩,_⟩:=ji hu1;have HS3:=j0 HS.put2;clear HS hu1 hu2;clear hI hall
   go_simp
   exact⟨rfl,HS3.out⟩
  refine Reg.oS (fun listed A X hI hin hun hall HS=> ?_) ?_
  ·have e5:=hI.wo 5 rfl;have e39:A.tmps[39]? =some (.agg #[.int .i64 (x:Int),.int .i64 y]):=hI.v hall 1 39;obtain⟨⟨u0,u1⟩,⟨v0,v1⟩,hu⟩:=HS.en;have HS3:=j0 (HS.put3 hin);clear HS;clear hI hall
   go_simp
   exact⟨rfl,HS3.out⟩
  trivial
 ·intro W9 hS;obtain⟨tu,ju,hu1,hu2⟩:=hS.tk;obtain⟨rfl,rfl⟩:=hu2 (by rfl);have hen:je W9 (w.heap.size+1) (x:Int) y:=hS.en;have HB9:=j0 hS.bel;obtain⟨⟨v0,v1,v2,v3,v4,v5,v6,v7,v8,v9⟩,_⟩:=ji hu1;obtain⟨⟨m0,m1⟩,_,_⟩:=hen;clear hS HX hu1 hu2;simp [Reg.finalTmps,Reg.dstAt,Reg.valOf,kV]
  go_wp2_with fail
  refine bodyPost_ret (v:=.tuple #[.agg #[.int .i64 (tu).kind,.int .i64 (k:Int),.int .i64 0,.int .u64 (tu).set.a,.int .u64 (tu).set.b,.int .u64 (tu).set.c,.int .u64 (tu).set.d,.int .i64 (tu).lo,.int .i64 (tu).hi,.bool (tu).lazy],.agg #[.int .i64 (x:Int),.int .i64 y]]) (by simp [results,Tryz.results94,go_sem,v0,v1,v2,v3,v4,v5,v6,v7,v8,v9,m0,m1]) rfl ⟨HF2.out,HB9.out⟩
theorem Xc(s:ByteArray)(k:Nat)(hk:k<s.size)(hs:s.size<=1099511627776)(w:World)(hc:jl s k=40):
  Calls Tryz.prog 94 #[.string s,.int .i64 (k:Int)] w fun e w'=>OneOut (jd s k) (k:Int) e/\Below w.heap.size w w':=by
 have hb:((s[k]'hk).toNat)=jl s k:=(jy hk).symm;have hcl:jl s k<256:=qk hk;have HTK:=j0 (qI s k);generalize jl s k=c at*;have IN:=j0 (fun W=>kJ kN c (by decide) W);rw [show kN.size=4 from rfl,qn c hcl] at IN;have HW:=j0 (qm w (k:Int));subst hc
 go_enter Tryz.func94,Tryz.ntmps94
 go_upto_if 18 with fail
 change Code.wp _ _ _ _ (jV w (k:Int));generalize jV w (k:Int)=W at*;have HOP:Hid (jd s k=vx s k):=j0 (by rw [HTK.out];rfl);have HW1:Hid (qS w (W.setCell ⟨(w.heap.size+1+1+1),0,none⟩ (.int .i64 1)) ⟨1,j7,0,0,false⟩ (k:Int) ((k:Int)+1) 0):=j0 (HW.out.cell 0 _ rfl);obtain⟨⟨v0,v1,v2,v3,v4,v5,v6,v7,v8,v9⟩,hu⟩:=jX HW.out.st;obtain⟨⟨y0,y1,y2,y3,y4,y5,y6,y7,y8,y9⟩,_⟩:=ji HW.out.st;clear HTK IN
 go_upto_region 13 with fail
 clear v0 v1 v2 v3 v4 v5 v6 v7 v8 v9 hu y0 y1 y2 y3 y4 y5 y6 y7 y8 y9 HW;obtain⟨W1,hW1⟩:∃X,X=W.setCell ⟨(w.heap.size+1+1+1),0,none⟩ (.int .i64 1):=⟨_,rfl⟩;rw [<-hW1] at HW1;change Code.wp _ _ _ _ (W.setCell ⟨(w.heap.size+1+1+1),0,none⟩ (.int .i64 1));rw [<-hW1];clear hW1;obtain⟨q,hq⟩:∃q,q=k+1:=⟨_,rfl⟩;have HQ:=j0 hq;have ek1:IntKind.i64.wrap ((k:Int)+1)=(q:Int):=by simp [IntKind.wrap,IntKind.signed,IntKind.bits];omega
 have ek2:(k:Int)+1=(q:Int):=by omega
 clear hq
 go_cut [54] (fun x wx=>x=.bool (decide (jl s q=63))/\wx=W1)
 case first=>
  have hq:=HQ.out;have hqb:q<=s.size:=by omega
  clear hq
  by_cases hlt:q<s.size
  ·have d1:decide (q<s.size)=true:=jT (by omega)
   by_cases hch:jl s q=63
   ·have hc:(((s[q]'hlt).toNat:Int)==63)=true:=by rw [jy hlt] at hch;simp [hch]
    have HD:=j0 (jT hch);clear hch
    go_wp2_with fail
    go_meet
    exact⟨by rw [HD.out]<;>rfl,rfl⟩
   ·have hc:(((s[q]'hlt).toNat:Int)==63)=false:=by rw [jy hlt] at hch;simp;omega
    have HD:=j0 (jF hch);clear hch
    go_wp2_with fail
    go_meet
    exact⟨by rw [HD.out]<;>rfl,rfl⟩
  ·have d1:decide (q<s.size)=false:=jF (by omega);have hch:¬jl s q=63:=by rw [qr (by omega)];decide
   have HD:=j0 (jF hch);clear hch
   go_wp2_with fail
   go_meet
   exact⟨by rw [HD.out]<;>rfl,rfl⟩
 case rest=>
  clear ek1 ek2;obtain⟨rfl,hwc⟩:=hcut;obtain rfl:W1=wc:=hwc.symm
  by_cases h63:jl s q=63
  ·rw [jT h63];have hq1:=ka h63 (by omega);have hk2:k+2<=s.size:=by have:=HQ.out;omega
   have HOP:Hid (jd s k=if jl s (k+2)=58 then(⟨2,j7,0,0,false⟩,0,k+2+1) else(jg,6,k)):=j0 (by rw [HOP.out];unfold vx;rw [<-HQ.out,if_pos h63,HQ.out]);have HW2:Hid (qS w (jO (W1.setCell ⟨(w.heap.size+1+1+1),0,none⟩ (.int .i64 2)) (w.heap.size+1+1) ((k:Int)+3) 0) ⟨2,j7,0,0,false⟩ (k:Int) ((k:Int)+3) 0):=j0 ((HW1.out.cell (t':=⟨2,j7,0,0,false⟩) 0 _ rfl).endAt _ _);obtain⟨⟨v0,v1,v2,v3,v4,v5,v6,v7,v8,v9⟩,hu⟩:=jX HW1.out.st;obtain⟨⟨y0,y1,y2,y3,y4,y5,y6,y7,y8,y9⟩,_⟩:=ji HW1.out.st;obtain⟨⟨z0,z1⟩,⟨l0,l1⟩,hz⟩:=HW1.out.se;clear h63 hq1
   go_upto_region 16 with fail
   clear v0 v1 v2 v3 v4 v5 v6 v7 v8 v9 hu y0 y1 y2 y3 y4 y5 y6 y7 y8 y9 z0 z1 l0 l1 hz HW1;obtain⟨W2,hW2⟩:∃X,X=jO (W1.setCell ⟨(w.heap.size+1+1+1),0,none⟩ (.int .i64 2)) (w.heap.size+1+1) ((k:Int)+3) 0:=⟨_,rfl⟩;rw [<-hW2] at HW2;change Code.wp _ _ _ _ (jO (W1.setCell ⟨(w.heap.size+1+1+1),0,none⟩ (.int .i64 2)) (w.heap.size+1+1) ((k:Int)+3) 0);rw [<-hW2];clear hW2;obtain⟨p,hp⟩:∃p,p=k+2:=⟨_,rfl⟩;have HP:=j0 hp;have ek1:IntKind.i64.wrap ((k:Int)+2)=(p:Int):=by simp [IntKind.wrap,IntKind.signed,IntKind.bits];omega
   have ek2:(k:Int)+2=(p:Int):=by omega
   clear hp
   go_cut [70] (fun x wx=>x=.bool (!decide (jl s p=58))/\wx=W2)
   case first=>
    have hp:=HP.out;have hpb:p<=s.size:=by omega
    clear hp
    by_cases hlt:p<s.size
    ·have d1:decide (s.size<=p)=false:=jF (by omega)
     by_cases hch:jl s p=58
     ·have hc:(((s[p]'hlt).toNat:Int) !=58)=false:=by rw [jy hlt] at hch;simp [hch]
      have HD:=j0 (jT hch);clear hch
      go_wp2_with fail
      go_meet
      exact⟨by rw [HD.out]<;>rfl,rfl⟩
     ·have hc:(((s[p]'hlt).toNat:Int) !=58)=true:=by rw [jy hlt] at hch;simp;omega
      have HD:=j0 (jF hch);clear hch
      go_wp2_with fail
      go_meet
      exact⟨by rw [HD.out]<;>rfl,rfl⟩
    ·have d1:decide (s.size<=p)=true:=jT (by omega);have hch:¬jl s p=58:=by rw [qr (by omega)];decide
     have HD:=j0 (jF hch);clear hch
     go_wp2_with fail
     go_meet
     exact⟨by rw [HD.out]<;>rfl,rfl⟩
   case rest=>
    clear ek1 ek2;obtain⟨rfl,hwc⟩:=hcut;obtain rfl:W2=wc:=hwc.symm
    by_cases h58:jl s p=58
    ·rw [jT h58];have HF:Hid (jd s k=(⟨2,j7,0,0,false⟩,0,k+3)):=j0 (by rw [HOP.out,<-HP.out,if_pos h58,HP.out]);clear h58 HOP;have HF2:=j0 (oneOut (t:=⟨2,j7,0,0,false⟩) (k:=(k:Int)) (x:=((k:Int)+3)) HF.out (by omega) (fun _=>rfl));have HX:=HW2;clear HF HW2;generalize (⟨2,j7,0,0,false⟩:jp)=tt at HF2 HX
     go_wp2_with fail
     refine Reg.wp_region_S (kV tt (k:Int) ((k:Int)+3) 0) (OneSr w tt (k:Int) ((k:Int)+3) 0) [0,1,2,3] (by rfl) (by kernel_rfl) (by kernel_rfl) ?_ ?_ ?_
     ·exact⟨⟨jg,0,HX.out.tk,fun e=>by simp at e⟩,⟨HX.out.en.at_,HX.out.en.free,HX.out.en.lt⟩,⟨HX.out.se.at_,HX.out.se.free,HX.out.se.lt⟩,HX.out.st,⟨HX.out.bel.os,HX.out.bel.tape,HX.out.bel.output,HX.out.bel.size,HX.out.bel.block⟩⟩
     ·refine Reg.oS (fun listed A X hI hin hun hall HS=> ?_) ?_
      ·have e8:=hI.wo 8 rfl;obtain⟨⟨z0,z1,z2,z3,z4,z5,z6,z7,z8,z9⟩,hz⟩:=ji HS.st;clear hI hall
       go_simp
       exact⟨rfl,HS.same (by decide) (by decide)⟩
      refine Reg.oS (fun listed A X hI hin hun hall HS=> ?_) ?_
      ·have e7:=hI.wo 7 rfl;obtain⟨⟨z0,z1⟩,⟨l0,l1⟩,hz⟩:=HS.se;clear hI hall
       go_simp
       exact⟨rfl,HS.same (by decide) (by decide)⟩
      refine Reg.oS (fun listed A X hI hin hun hall HS=> ?_) ?_
      ·have e4:=hI.wo 4 rfl;have e73:A.tmps[73]? =some (.agg #[.int .i64 (tt).kind,.int .i64 (k:Int),.int .i64 0,.int .u64 (tt).set.a,.int .u64 (tt).set.b,.int .u64 (tt).set.c,.int .u64 (tt).set.d,.int .i64 (tt).lo,.int .i64 (tt).hi,.bool (tt).lazy]):=hI.v hall 0 73;obtain⟨tu,ju,hu1,hu2⟩:=HS.tk;obtain⟨⟨v0,v1,v2,v3,v4,v5,v6,v7,v8,v9⟩,hu⟩:=jX hu1;obtain⟨⟨y0,y1,y2,y3,y4,y5,y6,y7,y8,y9⟩,_⟩:=ji hu1;have HS3:=j0 HS.put2;clear HS hu1 hu2;clear hI hall
       go_simp
       exact⟨rfl,HS3.out⟩
      refine Reg.oS (fun listed A X hI hin hun hall HS=> ?_) ?_
      ·have e5:=hI.wo 5 rfl;have e74:A.tmps[74]? =some (.agg #[.int .i64 ((k:Int)+3),.int .i64 0]):=hI.v hall 1 74;obtain⟨⟨u0,u1⟩,⟨v0,v1⟩,hu⟩:=HS.en;have HS3:=j0 (HS.put3 hin);clear HS;clear hI hall
       go_simp
       exact⟨rfl,HS3.out⟩
      trivial
     ·intro W9 hS;obtain⟨tu,ju,hu1,hu2⟩:=hS.tk;obtain⟨rfl,rfl⟩:=hu2 (by rfl);have hen:je W9 (w.heap.size+1) ((k:Int)+3) 0:=hS.en;have HB9:=j0 hS.bel;obtain⟨⟨v0,v1,v2,v3,v4,v5,v6,v7,v8,v9⟩,_⟩:=ji hu1;obtain⟨⟨m0,m1⟩,_,_⟩:=hen;clear hS HX hu1 hu2;simp [Reg.finalTmps,Reg.dstAt,Reg.valOf,kV]
      go_wp2_with fail
      refine bodyPost_ret (v:=.tuple #[.agg #[.int .i64 (tu).kind,.int .i64 (k:Int),.int .i64 0,.int .u64 (tu).set.a,.int .u64 (tu).set.b,.int .u64 (tu).set.c,.int .u64 (tu).set.d,.int .i64 (tu).lo,.int .i64 (tu).hi,.bool (tu).lazy],.agg #[.int .i64 ((k:Int)+3),.int .i64 0]]) (by simp [results,Tryz.results94,go_sem,v0,v1,v2,v3,v4,v5,v6,v7,v8,v9,m0,m1]) rfl ⟨HF2.out,HB9.out⟩
    ·rw [jF h58];have HF:Hid (jd s k=(jg,6,k)):=j0 (by rw [HOP.out,<-HP.out,if_neg h58]);have HW3:Hid (qS w (jO W2 (w.heap.size+1+1) (k:Int) 6) ⟨2,j7,0,0,false⟩ (k:Int) (k:Int) 6):=j0 (HW2.out.endAt _ _);obtain⟨⟨z0,z1⟩,⟨l0,l1⟩,hz⟩:=HW2.out.se;clear h58 HOP HW2;have HF2:=j0 (oneOut (t:=⟨2,j7,0,0,false⟩) (k:=(k:Int)) (x:=(k:Int)) HF.out (by omega) (fun h=>absurd h (by decide)));have HX:=HW3;clear HF HW3;generalize (⟨2,j7,0,0,false⟩:jp)=tt at HF2 HX
     go_wp2_with fail
     refine Reg.wp_region_S (kV tt (k:Int) (k:Int) 6) (OneSr w tt (k:Int) (k:Int) 6) [0,1,2,3] (by rfl) (by kernel_rfl) (by kernel_rfl) ?_ ?_ ?_
     ·exact⟨⟨jg,0,HX.out.tk,fun e=>by simp at e⟩,⟨HX.out.en.at_,HX.out.en.free,HX.out.en.lt⟩,⟨HX.out.se.at_,HX.out.se.free,HX.out.se.lt⟩,HX.out.st,⟨HX.out.bel.os,HX.out.bel.tape,HX.out.bel.output,HX.out.bel.size,HX.out.bel.block⟩⟩
     ·refine Reg.oS (fun listed A X hI hin hun hall HS=> ?_) ?_
      ·have e8:=hI.wo 8 rfl;obtain⟨⟨z0,z1,z2,z3,z4,z5,z6,z7,z8,z9⟩,hz⟩:=ji HS.st;clear hI hall
       go_simp
       exact⟨rfl,HS.same (by decide) (by decide)⟩
      refine Reg.oS (fun listed A X hI hin hun hall HS=> ?_) ?_
      ·have e7:=hI.wo 7 rfl;obtain⟨⟨z0,z1⟩,⟨l0,l1⟩,hz⟩:=HS.se;clear hI hall
       go_simp
       exact⟨rfl,HS.same (by decide) (by decide)⟩
      refine Reg.oS (fun listed A X hI hin hun hall HS=> ?_) ?_
      ·have e4:=hI.wo 4 rfl;have e73:A.tmps[73]? =some (.agg #[.int .i64 (tt).kind,.int .i64 (k:Int),.int .i64 0,.int .u64 (tt).set.a,.int .u64 (tt).set.b,.int .u64 (tt).set.c,.int .u64 (tt).set.d,.int .i64 (tt).lo,.int .i64 (tt).hi,.bool (tt).lazy]):=hI.v hall 0 73;obtain⟨tu,ju,hu1,hu2⟩:=HS.tk;obtain⟨⟨v0,v1,v2,v3,v4,v5,v6,v7,v8,v9⟩,hu⟩:=jX hu1;obtain⟨⟨y0,y1,y2,y3,y4,y5,y6,y7,y8,y9⟩,_⟩:=ji hu1;have HS3:=j0 HS.put2;clear HS hu1 hu2;clear hI hall
       go_simp
       exact⟨rfl,HS3.out⟩
      refine Reg.oS (fun listed A X hI hin hun hall HS=> ?_) ?_
      ·have e5:=hI.wo 5 rfl;have e74:A.tmps[74]? =some (.agg #[.int .i64 (k:Int),.int .i64 6]):=hI.v hall 1 74;obtain⟨⟨u0,u1⟩,⟨v0,v1⟩,hu⟩:=HS.en;have HS3:=j0 (HS.put3 hin);clear HS;clear hI hall
       go_simp
       exact⟨rfl,HS3.out⟩
      trivial
     ·intro W9 hS;obtain⟨tu,ju,hu1,hu2⟩:=hS.tk;obtain⟨rfl,rfl⟩:=hu2 (by rfl);have hen:je W9 (w.heap.size+1) (k:Int) 6:=hS.en;have HB9:=j0 hS.bel;obtain⟨⟨v0,v1,v2,v3,v4,v5,v6,v7,v8,v9⟩,_⟩:=ji hu1;obtain⟨⟨m0,m1⟩,_,_⟩:=hen;clear hS HX hu1 hu2;simp [Reg.finalTmps,Reg.dstAt,Reg.valOf,kV]
      go_wp2_with fail
      refine bodyPost_ret (v:=.tuple #[.agg #[.int .i64 (tu).kind,.int .i64 (k:Int),.int .i64 0,.int .u64 (tu).set.a,.int .u64 (tu).set.b,.int .u64 (tu).set.c,.int .u64 (tu).set.d,.int .i64 (tu).lo,.int .i64 (tu).hi,.bool (tu).lazy],.agg #[.int .i64 (k:Int),.int .i64 6]]) (by simp [results,Tryz.results94,go_sem,v0,v1,v2,v3,v4,v5,v6,v7,v8,v9,m0,m1]) rfl ⟨HF2.out,HB9.out⟩
  ·rw [jF h63];have HF:Hid (jd s k=(⟨1,j7,0,0,false⟩,0,k+1)):=j0 (by rw [HOP.out];unfold vx;rw [<-HQ.out,if_neg h63]);clear h63 HOP;have HF2:=j0 (oneOut (t:=⟨1,j7,0,0,false⟩) (k:=(k:Int)) (x:=((k:Int)+1)) HF.out (by omega) (fun _=>rfl));have HX:=HW1;clear HF HW1;generalize (⟨1,j7,0,0,false⟩:jp)=tt at HF2 HX
   go_wp2_with fail
   refine Reg.wp_region_S (kV tt (k:Int) ((k:Int)+1) 0) (OneSr w tt (k:Int) ((k:Int)+1) 0) [0,1,2,3] (by rfl) (by kernel_rfl) (by kernel_rfl) ?_ ?_ ?_
   ·exact⟨⟨jg,0,HX.out.tk,fun e=>by simp at e⟩,⟨HX.out.en.at_,HX.out.en.free,HX.out.en.lt⟩,⟨HX.out.se.at_,HX.out.se.free,HX.out.se.lt⟩,HX.out.st,⟨HX.out.bel.os,HX.out.bel.tape,HX.out.bel.output,HX.out.bel.size,HX.out.bel.block⟩⟩
   ·refine Reg.oS (fun listed A X hI hin hun hall HS=> ?_) ?_
    ·have e8:=hI.wo 8 rfl;obtain⟨⟨z0,z1,z2,z3,z4,z5,z6,z7,z8,z9⟩,hz⟩:=ji HS.st;clear hI hall
     go_simp
     exact⟨rfl,HS.same (by decide) (by decide)⟩
    refine Reg.oS (fun listed A X hI hin hun hall HS=> ?_) ?_
    ·have e7:=hI.wo 7 rfl;obtain⟨⟨z0,z1⟩,⟨l0,l1⟩,hz⟩:=HS.se;clear hI hall
     go_simp
     exact⟨rfl,HS.same (by decide) (by decide)⟩
    refine Reg.oS (fun listed A X hI hin hun hall HS=> ?_) ?_
    ·have e4:=hI.wo 4 rfl;have e73:A.tmps[73]? =some (.agg #[.int .i64 (tt).kind,.int .i64 (k:Int),.int .i64 0,.int .u64 (tt).set.a,.int .u64 (tt).set.b,.int .u64 (tt).set.c,.int .u64 (tt).set.d,.int .i64 (tt).lo,.int .i64 (tt).hi,.bool (tt).lazy]):=hI.v hall 0 73;obtain⟨tu,ju,hu1,hu2⟩:=HS.tk;obtain⟨⟨v0,v1,v2,v3,v4,v5,v6,v7,v8,v9⟩,hu⟩:=jX hu1;obtain⟨⟨y0,y1,y2,y3,y4,y5,y6,y7,y8,y9⟩,_⟩:=ji hu1;have HS3:=j0 HS.put2;clear HS hu1 hu2;clear hI hall
     go_simp
     exact⟨rfl,HS3.out⟩
    refine Reg.oS (fun listed A X hI hin hun hall HS=> ?_) ?_
    ·have e5:=hI.wo 5 rfl;have e74:A.tmps[74]? =some (.agg #[.int .i64 ((k:Int)+1),.int .i64 0]):=hI.v hall 1 74;obtain⟨⟨u0,u1⟩,⟨v0,v1⟩,hu⟩:=HS.en;have HS3:=j0 (HS.put3 hin);clear HS;clear hI hall
     go_simp
     exact⟨rfl,HS3.out⟩
    trivial
   ·intro W9 hS;obtain⟨tu,ju,hu1,hu2⟩:=hS.tk;obtain⟨rfl,rfl⟩:=hu2 (by rfl);have hen:je W9 (w.heap.size+1) ((k:Int)+1) 0:=hS.en;have HB9:=j0 hS.bel;obtain⟨⟨v0,v1,v2,v3,v4,v5,v6,v7,v8,v9⟩,_⟩:=ji hu1;obtain⟨⟨m0,m1⟩,_,_⟩:=hen;clear hS HX hu1 hu2;simp [Reg.finalTmps,Reg.dstAt,Reg.valOf,kV]
    go_wp2_with fail
    refine bodyPost_ret (v:=.tuple #[.agg #[.int .i64 (tu).kind,.int .i64 (k:Int),.int .i64 0,.int .u64 (tu).set.a,.int .u64 (tu).set.b,.int .u64 (tu).set.c,.int .u64 (tu).set.d,.int .i64 (tu).lo,.int .i64 (tu).hi,.bool (tu).lazy],.agg #[.int .i64 ((k:Int)+1),.int .i64 0]]) (by simp [results,Tryz.results94,go_sem,v0,v1,v2,v3,v4,v5,v6,v7,v8,v9,m0,m1]) rfl ⟨HF2.out,HB9.out⟩
theorem V5(s:ByteArray)(k:Nat)(hk:k<s.size)(hs:s.size<=1099511627776)(w:World)(hc:jl s k=41):
  Calls Tryz.prog 94 #[.string s,.int .i64 (k:Int)] w fun e w'=>OneOut (jd s k) (k:Int) e/\Below w.heap.size w w':=by
 have hb:((s[k]'hk).toNat)=jl s k:=(jy hk).symm;have hcl:jl s k<256:=qk hk;have HTK:=j0 (qI s k);generalize jl s k=c at*;have IN:=j0 (fun W=>kJ kN c (by decide) W);rw [show kN.size=4 from rfl,qn c hcl] at IN;have HW:=j0 (qm w (k:Int));subst hc
 go_enter Tryz.func94,Tryz.ntmps94
 go_upto_if 18 with fail
 change Code.wp _ _ _ _ (jV w (k:Int));generalize jV w (k:Int)=W at*;have HF:Hid (jd s k=(⟨3,j7,0,0,false⟩,0,k+1)):=j0 (by rw [HTK.out];rfl);have HW3:Hid (qS w (W.setCell ⟨(w.heap.size+1+1+1),0,none⟩ (.int .i64 3)) ⟨3,j7,0,0,false⟩ (k:Int) ((k:Int)+1) 0):=j0 (HW.out.cell 0 _ rfl);obtain⟨⟨v0,v1,v2,v3,v4,v5,v6,v7,v8,v9⟩,hu⟩:=jX HW.out.st;obtain⟨⟨y0,y1,y2,y3,y4,y5,y6,y7,y8,y9⟩,_⟩:=ji HW.out.st;clear HTK IN HW;have HF:Hid (jd s k=(⟨3,j7,0,0,false⟩,0,k+1)):=HF
 go_wp2_with fail
 obtain⟨W3,hW3⟩:∃X,X=W.setCell ⟨(w.heap.size+1+1+1),0,none⟩ (.int .i64 3):=⟨_,rfl⟩;rw [<-hW3] at HW3;change Code.wp _ _ _ _ (W.setCell ⟨(w.heap.size+1+1+1),0,none⟩ (.int .i64 3));rw [<-hW3];clear hW3;have HF2:=j0 (oneOut (t:=⟨3,j7,0,0,false⟩) (k:=(k:Int)) (x:=((k:Int)+1)) HF.out (by omega) (fun _=>rfl));have HX:=HW3;clear HF HW3;generalize (⟨3,j7,0,0,false⟩:jp)=tt at HF2 HX
 go_wp2_with fail
 refine Reg.wp_region_S (kV tt (k:Int) ((k:Int)+1) 0) (OneSr w tt (k:Int) ((k:Int)+1) 0) [0,1,2,3] (by rfl) (by kernel_rfl) (by kernel_rfl) ?_ ?_ ?_
 ·exact⟨⟨jg,0,HX.out.tk,fun e=>by simp at e⟩,⟨HX.out.en.at_,HX.out.en.free,HX.out.en.lt⟩,⟨HX.out.se.at_,HX.out.se.free,HX.out.se.lt⟩,HX.out.st,⟨HX.out.bel.os,HX.out.bel.tape,HX.out.bel.output,HX.out.bel.size,HX.out.bel.block⟩⟩
 ·refine Reg.oS (fun listed A X hI hin hun hall HS=> ?_) ?_
  ·have e8:=hI.wo 8 rfl;obtain⟨⟨z0,z1,z2,z3,z4,z5,z6,z7,z8,z9⟩,hz⟩:=ji HS.st;clear hI hall
   go_simp
   exact⟨rfl,HS.same (by decide) (by decide)⟩
  refine Reg.oS (fun listed A X hI hin hun hall HS=> ?_) ?_
  ·have e7:=hI.wo 7 rfl;obtain⟨⟨z0,z1⟩,⟨l0,l1⟩,hz⟩:=HS.se;clear hI hall
   go_simp
   exact⟨rfl,HS.same (by decide) (by decide)⟩
  refine Reg.oS (fun listed A X hI hin hun hall HS=> ?_) ?_
  ·have e4:=hI.wo 4 rfl;have e78:A.tmps[78]? =some (.agg #[.int .i64 (tt).kind,.int .i64 (k:Int),.int .i64 0,.int .u64 (tt).set.a,.int .u64 (tt).set.b,.int .u64 (tt).set.c,.int .u64 (tt).set.d,.int .i64 (tt).lo,.int .i64 (tt).hi,.bool (tt).lazy]):=hI.v hall 0 78;obtain⟨tu,ju,hu1,hu2⟩:=HS.tk;obtain⟨⟨v0,v1,v2,v3,v4,v5,v6,v7,v8,v9⟩,hu⟩:=jX hu1;obtain⟨⟨y0,y1,y2,y3,y4,y5,y6,y7,y8,y9⟩,_⟩:=ji hu1;have HS3:=j0 HS.put2;clear HS hu1 hu2;clear hI hall
   go_simp
   exact⟨rfl,HS3.out⟩
  refine Reg.oS (fun listed A X hI hin hun hall HS=> ?_) ?_
  ·have e5:=hI.wo 5 rfl;have e79:A.tmps[79]? =some (.agg #[.int .i64 ((k:Int)+1),.int .i64 0]):=hI.v hall 1 79;obtain⟨⟨u0,u1⟩,⟨v0,v1⟩,hu⟩:=HS.en;have HS3:=j0 (HS.put3 hin);clear HS;clear hI hall
   go_simp
   exact⟨rfl,HS3.out⟩
  trivial
 ·intro W9 hS;obtain⟨tu,ju,hu1,hu2⟩:=hS.tk;obtain⟨rfl,rfl⟩:=hu2 (by rfl);have hen:je W9 (w.heap.size+1) ((k:Int)+1) 0:=hS.en;have HB9:=j0 hS.bel;obtain⟨⟨v0,v1,v2,v3,v4,v5,v6,v7,v8,v9⟩,_⟩:=ji hu1;obtain⟨⟨m0,m1⟩,_,_⟩:=hen;clear hS HX hu1 hu2;simp [Reg.finalTmps,Reg.dstAt,Reg.valOf,kV]
  go_wp2_with fail
  refine bodyPost_ret (v:=.tuple #[.agg #[.int .i64 (tu).kind,.int .i64 (k:Int),.int .i64 0,.int .u64 (tu).set.a,.int .u64 (tu).set.b,.int .u64 (tu).set.c,.int .u64 (tu).set.d,.int .i64 (tu).lo,.int .i64 (tu).hi,.bool (tu).lazy],.agg #[.int .i64 ((k:Int)+1),.int .i64 0]]) (by simp [results,Tryz.results94,go_sem,v0,v1,v2,v3,v4,v5,v6,v7,v8,v9,m0,m1]) rfl ⟨HF2.out,HB9.out⟩
theorem YN(s:ByteArray)(k:Nat)(hk:k<s.size)(hs:s.size<=1099511627776)(w:World)(hc:jl s k=124):
  Calls Tryz.prog 94 #[.string s,.int .i64 (k:Int)] w fun e w'=>OneOut (jd s k) (k:Int) e/\Below w.heap.size w w':=by
 have hb:((s[k]'hk).toNat)=jl s k:=(jy hk).symm;have hcl:jl s k<256:=qk hk;have HTK:=j0 (qI s k);generalize jl s k=c at*;have IN:=j0 (fun W=>kJ kN c (by decide) W);rw [show kN.size=4 from rfl,qn c hcl] at IN;have HW:=j0 (qm w (k:Int));subst hc
 go_enter Tryz.func94,Tryz.ntmps94
 go_upto_if 18 with fail
 change Code.wp _ _ _ _ (jV w (k:Int));generalize jV w (k:Int)=W at*;have HF:Hid (jd s k=(⟨4,j7,0,0,false⟩,0,k+1)):=j0 (by rw [HTK.out];rfl);have HW3:Hid (qS w (W.setCell ⟨(w.heap.size+1+1+1),0,none⟩ (.int .i64 4)) ⟨4,j7,0,0,false⟩ (k:Int) ((k:Int)+1) 0):=j0 (HW.out.cell 0 _ rfl);obtain⟨⟨v0,v1,v2,v3,v4,v5,v6,v7,v8,v9⟩,hu⟩:=jX HW.out.st;obtain⟨⟨y0,y1,y2,y3,y4,y5,y6,y7,y8,y9⟩,_⟩:=ji HW.out.st;clear HTK IN HW;have HF:Hid (jd s k=(⟨4,j7,0,0,false⟩,0,k+1)):=HF
 go_wp2_with fail
 obtain⟨W3,hW3⟩:∃X,X=W.setCell ⟨(w.heap.size+1+1+1),0,none⟩ (.int .i64 4):=⟨_,rfl⟩;rw [<-hW3] at HW3;change Code.wp _ _ _ _ (W.setCell ⟨(w.heap.size+1+1+1),0,none⟩ (.int .i64 4));rw [<-hW3];clear hW3;have HF2:=j0 (oneOut (t:=⟨4,j7,0,0,false⟩) (k:=(k:Int)) (x:=((k:Int)+1)) HF.out (by omega) (fun _=>rfl));have HX:=HW3;clear HF HW3;generalize (⟨4,j7,0,0,false⟩:jp)=tt at HF2 HX
 go_wp2_with fail
 refine Reg.wp_region_S (kV tt (k:Int) ((k:Int)+1) 0) (OneSr w tt (k:Int) ((k:Int)+1) 0) [0,1,2,3] (by rfl) (by kernel_rfl) (by kernel_rfl) ?_ ?_ ?_
 ·exact⟨⟨jg,0,HX.out.tk,fun e=>by simp at e⟩,⟨HX.out.en.at_,HX.out.en.free,HX.out.en.lt⟩,⟨HX.out.se.at_,HX.out.se.free,HX.out.se.lt⟩,HX.out.st,⟨HX.out.bel.os,HX.out.bel.tape,HX.out.bel.output,HX.out.bel.size,HX.out.bel.block⟩⟩
 ·refine Reg.oS (fun listed A X hI hin hun hall HS=> ?_) ?_
  ·have e8:=hI.wo 8 rfl;obtain⟨⟨z0,z1,z2,z3,z4,z5,z6,z7,z8,z9⟩,hz⟩:=ji HS.st;clear hI hall
   go_simp
   exact⟨rfl,HS.same (by decide) (by decide)⟩
  refine Reg.oS (fun listed A X hI hin hun hall HS=> ?_) ?_
  ·have e7:=hI.wo 7 rfl;obtain⟨⟨z0,z1⟩,⟨l0,l1⟩,hz⟩:=HS.se;clear hI hall
   go_simp
   exact⟨rfl,HS.same (by decide) (by decide)⟩
  refine Reg.oS (fun listed A X hI hin hun hall HS=> ?_) ?_
  ·have e4:=hI.wo 4 rfl;have e83:A.tmps[83]? =some (.agg #[.int .i64 (tt).kind,.int .i64 (k:Int),.int .i64 0,.int .u64 (tt).set.a,.int .u64 (tt).set.b,.int .u64 (tt).set.c,.int .u64 (tt).set.d,.int .i64 (tt).lo,.int .i64 (tt).hi,.bool (tt).lazy]):=hI.v hall 0 83;obtain⟨tu,ju,hu1,hu2⟩:=HS.tk;obtain⟨⟨v0,v1,v2,v3,v4,v5,v6,v7,v8,v9⟩,hu⟩:=jX hu1;obtain⟨⟨y0,y1,y2,y3,y4,y5,y6,y7,y8,y9⟩,_⟩:=ji hu1;have HS3:=j0 HS.put2;clear HS hu1 hu2;clear hI hall
   go_simp
   exact⟨rfl,HS3.out⟩
  refine Reg.oS (fun listed A X hI hin hun hall HS=> ?_) ?_
  ·have e5:=hI.wo 5 rfl;have e84:A.tmps[84]? =some (.agg #[.int .i64 ((k:Int)+1),.int .i64 0]):=hI.v hall 1 84;obtain⟨⟨u0,u1⟩,⟨v0,v1⟩,hu⟩:=HS.en;have HS3:=j0 (HS.put3 hin);clear HS;clear hI hall
   go_simp
   exact⟨rfl,HS3.out⟩
  trivial
 ·intro W9 hS;obtain⟨tu,ju,hu1,hu2⟩:=hS.tk;obtain⟨rfl,rfl⟩:=hu2 (by rfl);have hen:je W9 (w.heap.size+1) ((k:Int)+1) 0:=hS.en;have HB9:=j0 hS.bel;obtain⟨⟨v0,v1,v2,v3,v4,v5,v6,v7,v8,v9⟩,_⟩:=ji hu1;obtain⟨⟨m0,m1⟩,_,_⟩:=hen;clear hS HX hu1 hu2;simp [Reg.finalTmps,Reg.dstAt,Reg.valOf,kV]
  go_wp2_with fail
  refine bodyPost_ret (v:=.tuple #[.agg #[.int .i64 (tu).kind,.int .i64 (k:Int),.int .i64 0,.int .u64 (tu).set.a,.int .u64 (tu).set.b,.int .u64 (tu).set.c,.int .u64 (tu).set.d,.int .i64 (tu).lo,.int .i64 (tu).hi,.bool (tu).lazy],.agg #[.int .i64 ((k:Int)+1),.int .i64 0]]) (by simp [results,Tryz.results94,go_sem,v0,v1,v2,v3,v4,v5,v6,v7,v8,v9,m0,m1]) rfl ⟨HF2.out,HB9.out⟩
theorem YL(s:ByteArray)(k:Nat)(hk:k<s.size)(hs:s.size<=1099511627776)(w:World)(hc:jl s k=46):
  Calls Tryz.prog 94 #[.string s,.int .i64 (k:Int)] w fun e w'=>OneOut (jd s k) (k:Int) e/\Below w.heap.size w w':=by
 have hb:((s[k]'hk).toNat)=jl s k:=(jy hk).symm;have hcl:jl s k<256:=qk hk;have HTK:=j0 (qI s k);generalize jl s k=c at*;have IN:=j0 (fun W=>kJ kN c (by decide) W);rw [show kN.size=4 from rfl,qn c hcl] at IN;have HW:=j0 (qm w (k:Int));subst hc
 go_enter Tryz.func94,Tryz.ntmps94
 go_upto_if 18 with fail
 change Code.wp _ _ _ _ (jV w (k:Int));generalize jV w (k:Int)=W at*;have HF:Hid (jd s k=(⟨0,km (jh 10),0,0,false⟩,0,k+1)):=j0 (by rw [HTK.out];rfl);have SM:Hid (∀X gl,jE X gl [(10,10)]->Calls Tryz.prog 140 #[.slice (some ⟨gl,0,none⟩) 1 1,.bool true] X fun e w'=>e=.returned (kd (km (jh 10)))/\Below X.heap.size X w'):=j0 (fun X gl hX=>jY gl 1 1 [(10,10)] true (km (jh 10)) (notW_fit _) (fun m hm=>by rw [zi,oneW_mem 10 m (by omega) hm];simp) rfl (by omega) X hX);clear HTK IN;generalize km (jh 10)=u at*
 go_wp2_with fail
 refine(SM.out _ _ (pairs_blk (j1 _ _) (ze rfl rfl))).mono ?_;rintro e w2 ⟨rfl,hb2⟩;have HW2:=j0 (HW.out.below ((j3 _ _).trans (hb2.mono (by simp))));have HW3:Hid (qS w (K8 w2 (w.heap.size+1+1+1) u) ⟨0,u,0,0,false⟩ (k:Int) ((k:Int)+1) 0):=j0 (HW2.out.set u);obtain⟨⟨v0,v1,v2,v3,v4,v5,v6,v7,v8,v9⟩,hu⟩:=jX HW2.out.st;obtain⟨⟨y0,y1,y2,y3,y4,y5,y6,y7,y8,y9⟩,_⟩:=ji HW2.out.st;clear hb2 SM HW HW2;unfold kd
 go_wp2_with fail
 obtain⟨W3,hW3⟩:∃X,X=K8 w2 (w.heap.size+1+1+1) u:=⟨_,rfl⟩;rw [<-hW3] at HW3;change Code.wp _ _ _ _ (K8 w2 (w.heap.size+1+1+1) u);rw [<-hW3];clear hW3;have HF2:=j0 (oneOut (t:=⟨0,u,0,0,false⟩) (k:=(k:Int)) (x:=((k:Int)+1)) HF.out (by omega) (fun _=>rfl));have HX:=HW3;clear HF HW3;generalize (⟨0,u,0,0,false⟩:jp)=tt at HF2 HX
 go_wp2_with fail
 refine Reg.wp_region_S (kV tt (k:Int) ((k:Int)+1) 0) (OneSr w tt (k:Int) ((k:Int)+1) 0) [0,1,2,3] (by rfl) (by kernel_rfl) (by kernel_rfl) ?_ ?_ ?_
 ·exact⟨⟨jg,0,HX.out.tk,fun e=>by simp at e⟩,⟨HX.out.en.at_,HX.out.en.free,HX.out.en.lt⟩,⟨HX.out.se.at_,HX.out.se.free,HX.out.se.lt⟩,HX.out.st,⟨HX.out.bel.os,HX.out.bel.tape,HX.out.bel.output,HX.out.bel.size,HX.out.bel.block⟩⟩
 ·refine Reg.oS (fun listed A X hI hin hun hall HS=> ?_) ?_
  ·have e8:=hI.wo 8 rfl;obtain⟨⟨z0,z1,z2,z3,z4,z5,z6,z7,z8,z9⟩,hz⟩:=ji HS.st;clear hI hall
   go_simp
   exact⟨rfl,HS.same (by decide) (by decide)⟩
  refine Reg.oS (fun listed A X hI hin hun hall HS=> ?_) ?_
  ·have e7:=hI.wo 7 rfl;obtain⟨⟨z0,z1⟩,⟨l0,l1⟩,hz⟩:=HS.se;clear hI hall
   go_simp
   exact⟨rfl,HS.same (by decide) (by decide)⟩
  refine Reg.oS (fun listed A X hI hin hun hall HS=> ?_) ?_
  ·have e4:=hI.wo 4 rfl;have e91:A.tmps[91]? =some (.agg #[.int .i64 (tt).kind,.int .i64 (k:Int),.int .i64 0,.int .u64 (tt).set.a,.int .u64 (tt).set.b,.int .u64 (tt).set.c,.int .u64 (tt).set.d,.int .i64 (tt).lo,.int .i64 (tt).hi,.bool (tt).lazy]):=hI.v hall 0 91;obtain⟨tu,ju,hu1,hu2⟩:=HS.tk;obtain⟨⟨v0,v1,v2,v3,v4,v5,v6,v7,v8,v9⟩,hu⟩:=jX hu1;obtain⟨⟨y0,y1,y2,y3,y4,y5,y6,y7,y8,y9⟩,_⟩:=ji hu1;have HS3:=j0 HS.put2;clear HS hu1 hu2;clear hI hall
   go_simp
   exact⟨rfl,HS3.out⟩
  refine Reg.oS (fun listed A X hI hin hun hall HS=> ?_) ?_
  ·have e5:=hI.wo 5 rfl;have e92:A.tmps[92]? =some (.agg #[.int .i64 ((k:Int)+1),.int .i64 0]):=hI.v hall 1 92;obtain⟨⟨u0,u1⟩,⟨v0,v1⟩,hu⟩:=HS.en;have HS3:=j0 (HS.put3 hin);clear HS;clear hI hall
   go_simp
   exact⟨rfl,HS3.out⟩
  trivial
 ·intro W9 hS;obtain⟨tu,ju,hu1,hu2⟩:=hS.tk;obtain⟨rfl,rfl⟩:=hu2 (by rfl);have hen:je W9 (w.heap.size+1) ((k:Int)+1) 0:=hS.en;have HB9:=j0 hS.bel;obtain⟨⟨v0,v1,v2,v3,v4,v5,v6,v7,v8,v9⟩,_⟩:=ji hu1;obtain⟨⟨m0,m1⟩,_,_⟩:=hen;clear hS HX hu1 hu2;simp [Reg.finalTmps,Reg.dstAt,Reg.valOf,kV]
  go_wp2_with fail
  refine bodyPost_ret (v:=.tuple #[.agg #[.int .i64 (tu).kind,.int .i64 (k:Int),.int .i64 0,.int .u64 (tu).set.a,.int .u64 (tu).set.b,.int .u64 (tu).set.c,.int .u64 (tu).set.d,.int .i64 (tu).lo,.int .i64 (tu).hi,.bool (tu).lazy],.agg #[.int .i64 ((k:Int)+1),.int .i64 0]]) (by simp [results,Tryz.results94,go_sem,v0,v1,v2,v3,v4,v5,v6,v7,v8,v9,m0,m1]) rfl ⟨HF2.out,HB9.out⟩
theorem V6(s:ByteArray)(k:Nat)(hk:k<s.size)(hs:s.size<=1099511627776)(w:World)(hc:jl s k=94):
  Calls Tryz.prog 94 #[.string s,.int .i64 (k:Int)] w fun e w'=>OneOut (jd s k) (k:Int) e/\Below w.heap.size w w':=by
 have hb:((s[k]'hk).toNat)=jl s k:=(jy hk).symm;have hcl:jl s k<256:=qk hk;have HTK:=j0 (qI s k);generalize jl s k=c at*;have IN:=j0 (fun W=>kJ kN c (by decide) W);rw [show kN.size=4 from rfl,qn c hcl] at IN;have HW:=j0 (qm w (k:Int));subst hc
 go_enter Tryz.func94,Tryz.ntmps94
 go_upto_if 18 with fail
 change Code.wp _ _ _ _ (jV w (k:Int));generalize jV w (k:Int)=W at*;obtain⟨tb,hF⟩:∃tb,jd s k=(tb,6,k):=⟨_,by rw [HTK.out];rfl⟩;have HF2:=j0 (oneOut (t:=jg) (k:=(k:Int)) (x:=(k:Int)) hF rfl (fun h=>absurd h (by decide)));obtain⟨⟨v0,v1,v2,v3,v4,v5,v6,v7,v8,v9⟩,hu⟩:=jX HW.out.tk;obtain⟨⟨y0,y1,y2,y3,y4,y5,y6,y7,y8,y9⟩,_⟩:=ji HW.out.tk;obtain⟨⟨z0,z1,z2,z3,z4,z5,z6,z7,z8,z9⟩,hz⟩:=ji HW.out.st;obtain⟨⟨e0,e1⟩,⟨l0,l1⟩,he⟩:=HW.out.en;clear HTK IN hF;unfold jg j7 at z0 z3 z4 z5 z6 z7 z8 z9;dsimp only at z0 z3 z4 z5 z6 z7 z8 z9
 go_wp2_with fail
 refine bodyPost_ret (v:=.tuple #[.agg #[.int .i64 (jg).kind,.int .i64 (k:Int),.int .i64 0,.int .u64 (jg).set.a,.int .u64 (jg).set.b,.int .u64 (jg).set.c,.int .u64 (jg).set.d,.int .i64 (jg).lo,.int .i64 (jg).hi,.bool (jg).lazy],.agg #[.int .i64 (k:Int),.int .i64 6]]) (by simp [results,Tryz.results94,go_sem,jg,j7,y0,y1,y2,y3,y4,y5,y6,y7,y8,y9,e0,e1]) rfl ⟨HF2.out,?_⟩;exact HW.out.ret jg (k:Int) 6
theorem V8(s:ByteArray)(k:Nat)(hk:k<s.size)(hs:s.size<=1099511627776)(w:World)(hc:jl s k=36):
  Calls Tryz.prog 94 #[.string s,.int .i64 (k:Int)] w fun e w'=>OneOut (jd s k) (k:Int) e/\Below w.heap.size w w':=by
 have hb:((s[k]'hk).toNat)=jl s k:=(jy hk).symm;have hcl:jl s k<256:=qk hk;have HTK:=j0 (qI s k);generalize jl s k=c at*;have IN:=j0 (fun W=>kJ kN c (by decide) W);rw [show kN.size=4 from rfl,qn c hcl] at IN;have HW:=j0 (qm w (k:Int));subst hc
 go_enter Tryz.func94,Tryz.ntmps94
 go_upto_if 18 with fail
 change Code.wp _ _ _ _ (jV w (k:Int));generalize jV w (k:Int)=W at*;obtain⟨tb,hF⟩:∃tb,jd s k=(tb,6,k):=⟨_,by rw [HTK.out];rfl⟩;have HF2:=j0 (oneOut (t:=jg) (k:=(k:Int)) (x:=(k:Int)) hF rfl (fun h=>absurd h (by decide)));obtain⟨⟨v0,v1,v2,v3,v4,v5,v6,v7,v8,v9⟩,hu⟩:=jX HW.out.tk;obtain⟨⟨y0,y1,y2,y3,y4,y5,y6,y7,y8,y9⟩,_⟩:=ji HW.out.tk;obtain⟨⟨z0,z1,z2,z3,z4,z5,z6,z7,z8,z9⟩,hz⟩:=ji HW.out.st;obtain⟨⟨e0,e1⟩,⟨l0,l1⟩,he⟩:=HW.out.en;clear HTK IN hF;unfold jg j7 at z0 z3 z4 z5 z6 z7 z8 z9;dsimp only at z0 z3 z4 z5 z6 z7 z8 z9
 go_wp2_with fail
 refine bodyPost_ret (v:=.tuple #[.agg #[.int .i64 (jg).kind,.int .i64 (k:Int),.int .i64 0,.int .u64 (jg).set.a,.int .u64 (jg).set.b,.int .u64 (jg).set.c,.int .u64 (jg).set.d,.int .i64 (jg).lo,.int .i64 (jg).hi,.bool (jg).lazy],.agg #[.int .i64 (k:Int),.int .i64 6]]) (by simp [results,Tryz.results94,go_sem,jg,j7,y0,y1,y2,y3,y4,y5,y6,y7,y8,y9,e0,e1]) rfl ⟨HF2.out,?_⟩;exact HW.out.ret jg (k:Int) 6
theorem V7(s:ByteArray)(k:Nat)(hk:k<s.size)(hs:s.size<=1099511627776)(w:World)(hc:jl s k=93):
  Calls Tryz.prog 94 #[.string s,.int .i64 (k:Int)] w fun e w'=>OneOut (jd s k) (k:Int) e/\Below w.heap.size w w':=by
 have hb:((s[k]'hk).toNat)=jl s k:=(jy hk).symm;have hcl:jl s k<256:=qk hk;have HTK:=j0 (qI s k);generalize jl s k=c at*;have IN:=j0 (fun W=>kJ kN c (by decide) W);rw [show kN.size=4 from rfl,qn c hcl] at IN;have HW:=j0 (qm w (k:Int));subst hc
 go_enter Tryz.func94,Tryz.ntmps94
 go_upto_if 18 with fail
 change Code.wp _ _ _ _ (jV w (k:Int));generalize jV w (k:Int)=W at*;obtain⟨tb,hF⟩:∃tb,jd s k=(tb,4,k):=⟨_,by rw [HTK.out];rfl⟩;have HF2:=j0 (oneOut (t:=jg) (k:=(k:Int)) (x:=(k:Int)) hF rfl (fun h=>absurd h (by decide)));obtain⟨⟨v0,v1,v2,v3,v4,v5,v6,v7,v8,v9⟩,hu⟩:=jX HW.out.tk;obtain⟨⟨y0,y1,y2,y3,y4,y5,y6,y7,y8,y9⟩,_⟩:=ji HW.out.tk;obtain⟨⟨z0,z1,z2,z3,z4,z5,z6,z7,z8,z9⟩,hz⟩:=ji HW.out.st;obtain⟨⟨e0,e1⟩,⟨l0,l1⟩,he⟩:=HW.out.en;clear HTK IN hF;unfold jg j7 at z0 z3 z4 z5 z6 z7 z8 z9;dsimp only at z0 z3 z4 z5 z6 z7 z8 z9
 go_wp2_with fail
 refine bodyPost_ret (v:=.tuple #[.agg #[.int .i64 (jg).kind,.int .i64 (k:Int),.int .i64 0,.int .u64 (jg).set.a,.int .u64 (jg).set.b,.int .u64 (jg).set.c,.int .u64 (jg).set.d,.int .i64 (jg).lo,.int .i64 (jg).hi,.bool (jg).lazy],.agg #[.int .i64 (k:Int),.int .i64 4]]) (by simp [results,Tryz.results94,go_sem,jg,j7,y0,y1,y2,y3,y4,y5,y6,y7,y8,y9,e0,e1]) rfl ⟨HF2.out,?_⟩;exact HW.out.ret jg (k:Int) 4
theorem U3(s:ByteArray)(k:Nat)(hk:k<s.size)(hs:s.size<=1099511627776)(w:World)(hc:jl s k=125):
  Calls Tryz.prog 94 #[.string s,.int .i64 (k:Int)] w fun e w'=>OneOut (jd s k) (k:Int) e/\Below w.heap.size w w':=by
 have hb:((s[k]'hk).toNat)=jl s k:=(jy hk).symm;have hcl:jl s k<256:=qk hk;have HTK:=j0 (qI s k);generalize jl s k=c at*;have IN:=j0 (fun W=>kJ kN c (by decide) W);rw [show kN.size=4 from rfl,qn c hcl] at IN;have HW:=j0 (qm w (k:Int));subst hc
 go_enter Tryz.func94,Tryz.ntmps94
 go_upto_if 18 with fail
 change Code.wp _ _ _ _ (jV w (k:Int));generalize jV w (k:Int)=W at*;obtain⟨tb,hF⟩:∃tb,jd s k=(tb,4,k):=⟨_,by rw [HTK.out];rfl⟩;have HF2:=j0 (oneOut (t:=jg) (k:=(k:Int)) (x:=(k:Int)) hF rfl (fun h=>absurd h (by decide)));obtain⟨⟨v0,v1,v2,v3,v4,v5,v6,v7,v8,v9⟩,hu⟩:=jX HW.out.tk;obtain⟨⟨y0,y1,y2,y3,y4,y5,y6,y7,y8,y9⟩,_⟩:=ji HW.out.tk;obtain⟨⟨z0,z1,z2,z3,z4,z5,z6,z7,z8,z9⟩,hz⟩:=ji HW.out.st;obtain⟨⟨e0,e1⟩,⟨l0,l1⟩,he⟩:=HW.out.en;clear HTK IN hF;unfold jg j7 at z0 z3 z4 z5 z6 z7 z8 z9;dsimp only at z0 z3 z4 z5 z6 z7 z8 z9
 go_wp2_with fail
 refine bodyPost_ret (v:=.tuple #[.agg #[.int .i64 (jg).kind,.int .i64 (k:Int),.int .i64 0,.int .u64 (jg).set.a,.int .u64 (jg).set.b,.int .u64 (jg).set.c,.int .u64 (jg).set.d,.int .i64 (jg).lo,.int .i64 (jg).hi,.bool (jg).lazy],.agg #[.int .i64 (k:Int),.int .i64 4]]) (by simp [results,Tryz.results94,go_sem,jg,j7,y0,y1,y2,y3,y4,y5,y6,y7,y8,y9,e0,e1]) rfl ⟨HF2.out,?_⟩;exact HW.out.ret jg (k:Int) 4
theorem YJ(s:ByteArray)(k:Nat)(hk:k<s.size)(hs:s.size<=1099511627776)(w:World)(h92:jl s k≠92)(h91:jl s k≠91)(h40:jl s k≠40)(h41:jl s k≠41)(h124:jl s k≠124)(h46:jl s k≠46)(h94:jl s k≠94)(h36:jl s k≠36)(h93:jl s k≠93)(h125:jl s k≠125)(hcn:J9 (jl s k)=false):
  Calls Tryz.prog 94 #[.string s,.int .i64 (k:Int)] w fun e w'=>OneOut (jd s k) (k:Int) e/\Below w.heap.size w w':=by
 have hb:((s[k]'hk).toNat)=jl s k:=(jy hk).symm;have hcl:jl s k<256:=qk hk;have HTK:=j0 (qI s k);generalize jl s k=c at*;have IN:=j0 (fun W=>kJ kN c (by decide) W);rw [show kN.size=4 from rfl,qn c hcl] at IN;have HW:=j0 (qm w (k:Int));have g92:(((c:Nat):Int)==92)=false:=by simp;omega
 have g91:(((c:Nat):Int)==91)=false:=by simp;omega
 have g40:(((c:Nat):Int)==40)=false:=by simp;omega
 have g41:(((c:Nat):Int)==41)=false:=by simp;omega
 have g124:(((c:Nat):Int)==124)=false:=by simp;omega
 have g46:(((c:Nat):Int)==46)=false:=by simp;omega
 have g94:(((c:Nat):Int)==94)=false:=by simp;omega
 have g36:(((c:Nat):Int)==36)=false:=by simp;omega
 have g93:(((c:Nat):Int)==93)=false:=by simp;omega
 have g125:(((c:Nat):Int)==125)=false:=by simp;omega
 go_enter Tryz.func94,Tryz.ntmps94
 go_upto_if 18 with fail
 change Code.wp _ _ _ _ (jV w (k:Int));generalize jV w (k:Int)=W at*;have h42:c≠42/\c≠43/\c≠63/\c≠123:=by unfold J9 at hcn;simp at hcn;omega
 have HELSE:Hid (tokC s k c=(⟨0,jh c,0,0,false⟩,0,k+1)):=j0 (by
  unfold tokC
  rw [if_neg h124,if_neg h40,if_neg h41,if_neg (by omega),if_neg h42.2.2.2,if_neg h91,if_neg h92,if_neg h46,if_neg (by omega),if_neg (by omega)])
 rw [hcn] at IN;clear h92 h91 h40 h41 h124 h46 h94 h36 h93 h125 h42 hcn
 go_wp2_with fail
 refine(IN.out _).mono ?_;rintro e w1 ⟨rfl,hw1⟩;obtain rfl:W=w1:=hw1.symm;clear IN;have HF:Hid (jd s k=(⟨0,jh c,0,0,false⟩,0,k+1)):=j0 (by rw [HTK.out,HELSE.out]);have SM:Hid (∀X gl,jE X gl [(c,c)]->Calls Tryz.prog 140 #[.slice (some ⟨gl,0,none⟩) 1 1,.bool false] X fun e w'=>e=.returned (kd (jh c))/\Below X.heap.size X w'):=j0 (fun X gl hX=>jY gl 1 1 [(c,c)] false (jh c) (kz _) (fun m hm=>by rw [oneW_mem c m hcl hm];simp) rfl (by omega) X hX);clear HTK HELSE;generalize jh c=u at*
 go_wp2_with fail
 refine(SM.out _ _ (pairs_blk (j1 _ _) (ze rfl rfl))).mono ?_;rintro e w2 ⟨rfl,hb2⟩;have HW2:=j0 (HW.out.below ((j3 _ _).trans (hb2.mono (by simp))));have HW3:Hid (qS w (K8 w2 (w.heap.size+1+1+1) u) ⟨0,u,0,0,false⟩ (k:Int) ((k:Int)+1) 0):=j0 (HW2.out.set u);obtain⟨⟨v0,v1,v2,v3,v4,v5,v6,v7,v8,v9⟩,hu⟩:=jX HW2.out.st;obtain⟨⟨y0,y1,y2,y3,y4,y5,y6,y7,y8,y9⟩,_⟩:=ji HW2.out.st;clear hb2 SM HW HW2;unfold kd
 go_wp2_with fail
 obtain⟨W3,hW3⟩:∃X,X=K8 w2 (w.heap.size+1+1+1) u:=⟨_,rfl⟩;rw [<-hW3] at HW3;change Code.wp _ _ _ _ (K8 w2 (w.heap.size+1+1+1) u);rw [<-hW3];clear hW3;have HF2:=j0 (oneOut (t:=⟨0,u,0,0,false⟩) (k:=(k:Int)) (x:=((k:Int)+1)) HF.out (by omega) (fun _=>rfl));have HX:=HW3;clear HF HW3;generalize (⟨0,u,0,0,false⟩:jp)=tt at HF2 HX
 go_wp2_with fail
 refine Reg.wp_region_S (kV tt (k:Int) ((k:Int)+1) 0) (OneSr w tt (k:Int) ((k:Int)+1) 0) [0,1,2,3] (by rfl) (by kernel_rfl) (by kernel_rfl) ?_ ?_ ?_
 ·exact⟨⟨jg,0,HX.out.tk,fun e=>by simp at e⟩,⟨HX.out.en.at_,HX.out.en.free,HX.out.en.lt⟩,⟨HX.out.se.at_,HX.out.se.free,HX.out.se.lt⟩,HX.out.st,⟨HX.out.bel.os,HX.out.bel.tape,HX.out.bel.output,HX.out.bel.size,HX.out.bel.block⟩⟩
 ·refine Reg.oS (fun listed A X hI hin hun hall HS=> ?_) ?_
  ·have e8:=hI.wo 8 rfl;obtain⟨⟨z0,z1,z2,z3,z4,z5,z6,z7,z8,z9⟩,hz⟩:=ji HS.st;clear hI hall
   go_simp
   exact⟨rfl,HS.same (by decide) (by decide)⟩
  refine Reg.oS (fun listed A X hI hin hun hall HS=> ?_) ?_
  ·have e7:=hI.wo 7 rfl;obtain⟨⟨z0,z1⟩,⟨l0,l1⟩,hz⟩:=HS.se;clear hI hall
   go_simp
   exact⟨rfl,HS.same (by decide) (by decide)⟩
  refine Reg.oS (fun listed A X hI hin hun hall HS=> ?_) ?_
  ·have e4:=hI.wo 4 rfl;have e116:A.tmps[116]? =some (.agg #[.int .i64 (tt).kind,.int .i64 (k:Int),.int .i64 0,.int .u64 (tt).set.a,.int .u64 (tt).set.b,.int .u64 (tt).set.c,.int .u64 (tt).set.d,.int .i64 (tt).lo,.int .i64 (tt).hi,.bool (tt).lazy]):=hI.v hall 0 116;obtain⟨tu,ju,hu1,hu2⟩:=HS.tk;obtain⟨⟨v0,v1,v2,v3,v4,v5,v6,v7,v8,v9⟩,hu⟩:=jX hu1;obtain⟨⟨y0,y1,y2,y3,y4,y5,y6,y7,y8,y9⟩,_⟩:=ji hu1;have HS3:=j0 HS.put2;clear HS hu1 hu2;clear hI hall
   go_simp
   exact⟨rfl,HS3.out⟩
  refine Reg.oS (fun listed A X hI hin hun hall HS=> ?_) ?_
  ·have e5:=hI.wo 5 rfl;have e117:A.tmps[117]? =some (.agg #[.int .i64 ((k:Int)+1),.int .i64 0]):=hI.v hall 1 117;obtain⟨⟨u0,u1⟩,⟨v0,v1⟩,hu⟩:=HS.en;have HS3:=j0 (HS.put3 hin);clear HS;clear hI hall
   go_simp
   exact⟨rfl,HS3.out⟩
  trivial
 ·intro W9 hS;obtain⟨tu,ju,hu1,hu2⟩:=hS.tk;obtain⟨rfl,rfl⟩:=hu2 (by rfl);have hen:je W9 (w.heap.size+1) ((k:Int)+1) 0:=hS.en;have HB9:=j0 hS.bel;obtain⟨⟨v0,v1,v2,v3,v4,v5,v6,v7,v8,v9⟩,_⟩:=ji hu1;obtain⟨⟨m0,m1⟩,_,_⟩:=hen;clear hS HX hu1 hu2;simp [Reg.finalTmps,Reg.dstAt,Reg.valOf,kV]
  go_wp2_with fail
  refine bodyPost_ret (v:=.tuple #[.agg #[.int .i64 (tu).kind,.int .i64 (k:Int),.int .i64 0,.int .u64 (tu).set.a,.int .u64 (tu).set.b,.int .u64 (tu).set.c,.int .u64 (tu).set.d,.int .i64 (tu).lo,.int .i64 (tu).hi,.bool (tu).lazy],.agg #[.int .i64 ((k:Int)+1),.int .i64 0]]) (by simp [results,Tryz.results94,go_sem,v0,v1,v2,v3,v4,v5,v6,v7,v8,v9,m0,m1]) rfl ⟨HF2.out,HB9.out⟩
theorem V4(s:ByteArray)(k:Nat)(hk:k<s.size)(hs:s.size<=1099511627776)(w:World)(h92:jl s k≠92)(h91:jl s k≠91)(h40:jl s k≠40)(h41:jl s k≠41)(h124:jl s k≠124)(h46:jl s k≠46)(h94:jl s k≠94)(h36:jl s k≠36)(h93:jl s k≠93)(h125:jl s k≠125)(hcn:J9 (jl s k)=true):
  Calls Tryz.prog 94 #[.string s,.int .i64 (k:Int)] w fun e w'=>OneOut (jd s k) (k:Int) e/\Below w.heap.size w w':=by
 have hb:((s[k]'hk).toNat)=jl s k:=(jy hk).symm;have hcl:jl s k<256:=qk hk;have HTK:=j0 (qI s k);generalize jl s k=c at*;have IN:=j0 (fun W=>kJ kN c (by decide) W);rw [show kN.size=4 from rfl,qn c hcl] at IN;have HW:=j0 (qm w (k:Int));have g92:(((c:Nat):Int)==92)=false:=by simp;omega
 have g91:(((c:Nat):Int)==91)=false:=by simp;omega
 have g40:(((c:Nat):Int)==40)=false:=by simp;omega
 have g41:(((c:Nat):Int)==41)=false:=by simp;omega
 have g124:(((c:Nat):Int)==124)=false:=by simp;omega
 have g46:(((c:Nat):Int)==46)=false:=by simp;omega
 have g94:(((c:Nat):Int)==94)=false:=by simp;omega
 have g36:(((c:Nat):Int)==36)=false:=by simp;omega
 have g93:(((c:Nat):Int)==93)=false:=by simp;omega
 have g125:(((c:Nat):Int)==125)=false:=by simp;omega
 clear h92 h91 h40 h41 h124 h46 h94 h36 h93 h125
 go_enter Tryz.func94,Tryz.ntmps94
 go_upto_if 18 with fail
 change Code.wp _ _ _ _ (jV w (k:Int));generalize jV w (k:Int)=W at*;rw [hcn] at IN;have HW5:Hid (qS w ((W.setCell ⟨(w.heap.size+1+1+1),0,none⟩ (.int .i64 5)).setCell ⟨(w.heap.size+1+1+1),8,none⟩ (.int .i64 (-1))) ⟨5,j7,0,-1,false⟩ (k:Int) ((k:Int)+1) 0):=j0 ((HW.out.cell (t':=⟨5,j7,0,0,false⟩) 0 _ rfl).cell (t':=⟨5,j7,0,-1,false⟩) 8 _ rfl);obtain⟨⟨v0,v1,v2,v3,v4,v5,v6,v7,v8,v9⟩,hu⟩:=jX HW.out.st;obtain⟨⟨y0,y1,y2,y3,y4,y5,y6,y7,y8,y9⟩,_⟩:=ji HW.out.st;have hc4:c=42\/c=43\/c=63\/c=123:=by unfold J9 at hcn;simpa using hcn
 clear hcn
 go_wp2_with fail
 refine(IN.out _).mono ?_;rintro e w1 ⟨rfl,hw1⟩;obtain rfl:W=w1:=hw1.symm
 go_upto_block 1 with fail
 clear v0 v1 v2 v3 v4 v5 v6 v7 v8 v9 hu y0 y1 y2 y3 y4 y5 y6 y7 y8 y9 HW IN;obtain⟨W5,hW5⟩:∃X,X=(W.setCell ⟨(w.heap.size+1+1+1),0,none⟩ (.int .i64 5)).setCell ⟨(w.heap.size+1+1+1),8,none⟩ (.int .i64 (-1)):=⟨_,rfl⟩;rw [<-hW5] at HW5;change Code.wp _ _ _ _ ((W.setCell ⟨(w.heap.size+1+1+1),0,none⟩ (.int .i64 5)).setCell ⟨(w.heap.size+1+1+1),8,none⟩ (.int .i64 (-1)));rw [<-hW5];clear hW5
 go_cut [] (fun wx=>∃(lo hi:Int) (x:Nat) (y:Int),Hid (qS w wx ⟨5,j7,lo,hi,false⟩ (k:Int) (x:Int) y)/\x<=s.size/\(y≠0->Hid (jd s k=(jg,y,x)))/\(y=0->Hid (jd s k=jK s lo hi x)))
 case first=>
  rcases hc4 with rfl|rfl|rfl|rfl
  ·have HF:Hid (jd s k=jK s 0 (-1) (k+1)):=j0 (by rw [HTK.out];rfl);clear HTK
   go_wp2_with fail
   go_meet
   exact⟨0,-1,k+1,0,HW5,by omega,(fun h=>absurd rfl h),fun _=>HF⟩
  ·have HF:Hid (jd s k=jK s 1 (-1) (k+1)):=j0 (by rw [HTK.out];rfl);clear HTK;have HW6:Hid (qS w (W5.setCell ⟨(w.heap.size+1+1+1),7,none⟩ (.int .i64 1)) ⟨5,j7,1,-1,false⟩ (k:Int) ((k:Int)+1) 0):=j0 (HW5.out.cell 7 _ rfl);obtain⟨⟨v0,v1,v2,v3,v4,v5,v6,v7,v8,v9⟩,hu⟩:=jX HW5.out.st;obtain⟨⟨y0,y1,y2,y3,y4,y5,y6,y7,y8,y9⟩,_⟩:=ji HW5.out.st
   go_wp2_with fail
   go_meet
   exact⟨1,-1,k+1,0,HW6,by omega,(fun h=>absurd rfl h),fun _=>HF⟩
  ·have HF:Hid (jd s k=jK s 0 (1) (k+1)):=j0 (by rw [HTK.out];rfl);clear HTK;have HW6:Hid (qS w (W5.setCell ⟨(w.heap.size+1+1+1),8,none⟩ (.int .i64 1)) ⟨5,j7,0,1,false⟩ (k:Int) ((k:Int)+1) 0):=j0 (HW5.out.cell 8 _ rfl);obtain⟨⟨v0,v1,v2,v3,v4,v5,v6,v7,v8,v9⟩,hu⟩:=jX HW5.out.st;obtain⟨⟨y0,y1,y2,y3,y4,y5,y6,y7,y8,y9⟩,_⟩:=ji HW5.out.st
   go_wp2_with fail
   go_meet
   exact⟨0,1,k+1,0,HW6,by omega,(fun h=>absurd rfl h),fun _=>HF⟩
  ·have HBT:Hid (jd s k=if(Jd s (k+1)).2.2.1≠0 then(jg,(Jd s (k+1)).2.2.1,(Jd s (k+1)).2.2.2) else jK s (Jd s (k+1)).1 (Jd s (k+1)).2.1 (Jd s (k+1)).2.2.2):=j0 (by rw [HTK.out];exact braces_br s k);have hbl:=brR_le (s:=s) (a:=k+1) (by omega);have BR:=j0 (fun W=>refbr_any s (k+1) (by omega) hs W);clear HTK;obtain⟨r,hr⟩:∃r,r=Jd s (k+1):=⟨_,rfl⟩;rw [<-hr] at HBT BR hbl;clear hr;obtain⟨lo,hi,y,x⟩:=r;have BR:Hid (∀W,Calls Tryz.prog 142 #[.string s,.int .i64 ((k+1:Nat):Int)] W fun e w'=>e=.returned (.tuple #[.int .i64 lo,.int .i64 hi,.agg #[.int .i64 (x:Int),.int .i64 y]])/\Below W.heap.size W w'):=BR;have HBT:Hid (jd s k=if y≠0 then(jg,y,x) else jK s lo hi x):=HBT;have hx:x<=s.size:=hbl;obtain⟨q,hq⟩:∃q,q=k+1:=⟨_,rfl⟩;rw [<-hq] at BR;have ek1:IntKind.i64.wrap ((k:Int)+1)=(q:Int):=by simp [IntKind.wrap,IntKind.signed,IntKind.bits];omega
   have ek2:(k:Int)+1=(q:Int):=by omega
   clear hq hbl
   go_wp2_with fail
   refine(BR.out _).mono ?_;rintro e w6 ⟨rfl,hb6⟩;have HW6:=j0 (HW5.out.below hb6);have HW7:Hid (qS w (jO ((w6.setCell ⟨(w.heap.size+1+1+1),7,none⟩ (.int .i64 lo)).setCell ⟨(w.heap.size+1+1+1),8,none⟩ (.int .i64 hi)) (w.heap.size+1+1) (x:Int) y) ⟨5,j7,lo,hi,false⟩ (k:Int) (x:Int) y):=j0 (((HW6.out.cell (t':=⟨5,j7,lo,-1,false⟩) 7 _ rfl).cell (t':=⟨5,j7,lo,hi,false⟩) 8 _ rfl).endAt _ _);obtain⟨⟨v0,v1,v2,v3,v4,v5,v6,v7,v8,v9⟩,hu⟩:=jX HW6.out.st;obtain⟨⟨y0,y1,y2,y3,y4,y5,y6,y7,y8,y9⟩,_⟩:=ji HW6.out.st;obtain⟨⟨z0,z1⟩,⟨l0,l1⟩,hz⟩:=HW6.out.se;clear hb6 BR ek1 ek2 HW6
   go_wp2_with fail
   go_meet
   exact⟨lo,hi,x,y,HW7,hx,(fun h=>j0 (by rw [HBT.out,if_pos h])),(fun h=>j0 (by rw [HBT.out,if_neg (by simpa using h)]))⟩
 case rest=>
  clear HW5;obtain⟨lo,hi,x,y,HW5,hx,HNO,HYES⟩:=hcut;obtain⟨⟨z0,z1⟩,⟨l0,l1⟩,hz⟩:=HW5.out.se
  by_cases hy:y=0
  ·subst hy;have HCT:=HYES rfl;clear HNO HYES
   go_upto_region 48 with fail
   clear z0 z1 l0 l1 hz
   go_cut [155] (fun v wx=>v=.bool (decide (jl s x=63))/\wx=wc)
   case first=>
    obtain⟨⟨z0,z1⟩,⟨l0,l1⟩,hz⟩:=HW5.out.se
    by_cases hlt:x<s.size
    ·have d1:decide (x<s.size)=true:=jT (by omega)
     by_cases hch:jl s x=63
     ·have hc:(((s[x]'hlt).toNat:Int)==63)=true:=by rw [jy hlt] at hch;simp [hch]
      have HD:=j0 (jT hch);clear hch
      go_wp2_with fail
      go_meet
      exact⟨by rw [HD.out]<;>rfl,rfl⟩
     ·have hc:(((s[x]'hlt).toNat:Int)==63)=false:=by rw [jy hlt] at hch;simp;omega
      have HD:=j0 (jF hch);clear hch
      go_wp2_with fail
      go_meet
      exact⟨by rw [HD.out]<;>rfl,rfl⟩
    ·have d1:decide (x<s.size)=false:=jF (by omega);have hch:¬jl s x=63:=by rw [qr (by omega)];decide
     have HD:=j0 (jF hch);clear hch
     go_wp2_with fail
     go_meet
     exact⟨by rw [HD.out]<;>rfl,rfl⟩
   case rest=>
    obtain⟨rfl,hwc⟩:=hcut;subst hwc
    go_upto_if 155 with fail
    go_cut [] (fun wx=>∃(lz:Bool) (j:Nat),Hid (qS w wx ⟨5,j7,lo,hi,lz⟩ (k:Int) (j:Int) 0)/\j<=s.size/\Hid (jK s lo hi x=if jl s j=43 then(jg,6,j) else(⟨5,j7,lo,hi,lz⟩,0,j)))
    case first=>
     by_cases h63:jl s x=63
     ·rw [jT h63];have hx1:=ka h63 (by omega);obtain⟨q,hq⟩:∃q,q=x+1:=⟨_,rfl⟩;have HF:Hid (jK s lo hi x=if jl s q=43 then(jg,6,q) else(⟨5,j7,lo,hi,true⟩,0,q)):=j0 (by unfold jK;rw [if_pos h63,hq]);have hqs:q<=s.size:=by omega
      have eq1:IntKind.i64.wrap ((x:Int)+1)=(q:Int):=by simp [IntKind.wrap,IntKind.signed,IntKind.bits];omega
      have eq2:(x:Int)+1=(q:Int):=by omega
      have HW6:=j0 ((HW5.out.cell (t':=⟨5,j7,lo,hi,true⟩) 9 (.bool true) rfl).at_ (q:Int));obtain⟨⟨v0,v1,v2,v3,v4,v5,v6,v7,v8,v9⟩,hu⟩:=jX HW5.out.st;obtain⟨⟨y0,y1,y2,y3,y4,y5,y6,y7,y8,y9⟩,_⟩:=ji HW5.out.st;obtain⟨⟨z0,z1⟩,⟨l0,l1⟩,hz⟩:=HW5.out.se;clear h63 hq HCT
      go_wp2_with fail
      go_meet
      exact⟨true,q,HW6,hqs,HF⟩
     ·rw [jF h63];have HF:Hid (jK s lo hi x=if jl s x=43 then(jg,6,x) else(⟨5,j7,lo,hi,false⟩,0,x)):=j0 (by unfold jK;rw [if_neg h63]);clear h63 HCT
      go_wp2_with fail
      go_meet
      exact⟨false,x,HW5,hx,HF⟩
    case rest=>
     clear HW5;obtain⟨lz,j,HW6,hj,HC2⟩:=hcut;have HCT:Hid (jd s k=if jl s j=43 then(jg,6,j) else(⟨5,j7,lo,hi,lz⟩,0,j)):=j0 (HCT.out.trans HC2.out);clear HC2
     go_upto_region 51 with fail
     go_cut [172] (fun v wx=>v=.bool (decide (jl s j=43))/\wx=wc)
     case first=>
      obtain⟨⟨z0,z1⟩,⟨l0,l1⟩,hz⟩:=HW6.out.se
      by_cases hlt:j<s.size
      ·have d1:decide (j<s.size)=true:=jT (by omega)
       by_cases hch:jl s j=43
       ·have hc:(((s[j]'hlt).toNat:Int)==43)=true:=by rw [jy hlt] at hch;simp [hch]
        have HD:=j0 (jT hch);clear hch
        go_wp2_with fail
        go_meet
        exact⟨by rw [HD.out]<;>rfl,rfl⟩
       ·have hc:(((s[j]'hlt).toNat:Int)==43)=false:=by rw [jy hlt] at hch;simp;omega
        have HD:=j0 (jF hch);clear hch
        go_wp2_with fail
        go_meet
        exact⟨by rw [HD.out]<;>rfl,rfl⟩
      ·have d1:decide (j<s.size)=false:=jF (by omega);have hch:¬jl s j=43:=by rw [qr (by omega)];decide
       have HD:=j0 (jF hch);clear hch
       go_wp2_with fail
       go_meet
       exact⟨by rw [HD.out]<;>rfl,rfl⟩
     case rest=>
      obtain⟨rfl,hwc⟩:=hcut;subst hwc
      by_cases h43:jl s j=43
      ·rw [jT h43];have HF:Hid (jd s k=(jg,6,j)):=j0 (by rw [HCT.out,if_pos h43]);have HW7:=j0 (HW6.out.er 6);obtain⟨⟨z0,z1⟩,⟨l0,l1⟩,hz⟩:=HW6.out.se;clear h43 HCT HW6;have HF2:=j0 (oneOut (t:=⟨5,j7,lo,hi,lz⟩) (k:=(k:Int)) (x:=(j:Int)) HF.out (by omega) (fun h=>absurd h (by decide)));have HX:=HW7;clear HF HW7;generalize (⟨5,j7,lo,hi,lz⟩:jp)=tt at HF2 HX
       go_wp2_with fail
       refine Reg.wp_region_S (kV tt (k:Int) (j:Int) 6) (OneSr w tt (k:Int) (j:Int) 6) [0,1,2,3] (by rfl) (by kernel_rfl) (by kernel_rfl) ?_ ?_ ?_
       ·exact⟨⟨jg,0,HX.out.tk,fun e=>by simp at e⟩,⟨HX.out.en.at_,HX.out.en.free,HX.out.en.lt⟩,⟨HX.out.se.at_,HX.out.se.free,HX.out.se.lt⟩,HX.out.st,⟨HX.out.bel.os,HX.out.bel.tape,HX.out.bel.output,HX.out.bel.size,HX.out.bel.block⟩⟩
       ·refine Reg.oS (fun listed A X hI hin hun hall HS=> ?_) ?_
        ·have e8:=hI.wo 8 rfl;obtain⟨⟨z0,z1,z2,z3,z4,z5,z6,z7,z8,z9⟩,hz⟩:=ji HS.st;clear hI hall
         go_simp
         exact⟨rfl,HS.same (by decide) (by decide)⟩
        refine Reg.oS (fun listed A X hI hin hun hall HS=> ?_) ?_
        ·have e7:=hI.wo 7 rfl;obtain⟨⟨z0,z1⟩,⟨l0,l1⟩,hz⟩:=HS.se;clear hI hall
         go_simp
         exact⟨rfl,HS.same (by decide) (by decide)⟩
        refine Reg.oS (fun listed A X hI hin hun hall HS=> ?_) ?_
        ·have e4:=hI.wo 4 rfl;have e174:A.tmps[174]? =some (.agg #[.int .i64 (tt).kind,.int .i64 (k:Int),.int .i64 0,.int .u64 (tt).set.a,.int .u64 (tt).set.b,.int .u64 (tt).set.c,.int .u64 (tt).set.d,.int .i64 (tt).lo,.int .i64 (tt).hi,.bool (tt).lazy]):=hI.v hall 0 174;obtain⟨tu,ju,hu1,hu2⟩:=HS.tk;obtain⟨⟨v0,v1,v2,v3,v4,v5,v6,v7,v8,v9⟩,hu⟩:=jX hu1;obtain⟨⟨y0,y1,y2,y3,y4,y5,y6,y7,y8,y9⟩,_⟩:=ji hu1;have HS3:=j0 HS.put2;clear HS hu1 hu2;clear hI hall
         go_simp
         exact⟨rfl,HS3.out⟩
        refine Reg.oS (fun listed A X hI hin hun hall HS=> ?_) ?_
        ·have e5:=hI.wo 5 rfl;have e175:A.tmps[175]? =some (.agg #[.int .i64 (j:Int),.int .i64 6]):=hI.v hall 1 175;obtain⟨⟨u0,u1⟩,⟨v0,v1⟩,hu⟩:=HS.en;have HS3:=j0 (HS.put3 hin);clear HS;clear hI hall
         go_simp
         exact⟨rfl,HS3.out⟩
        trivial
       ·intro W9 hS;obtain⟨tu,ju,hu1,hu2⟩:=hS.tk;obtain⟨rfl,rfl⟩:=hu2 (by rfl);have hen:je W9 (w.heap.size+1) (j:Int) 6:=hS.en;have HB9:=j0 hS.bel;obtain⟨⟨v0,v1,v2,v3,v4,v5,v6,v7,v8,v9⟩,_⟩:=ji hu1;obtain⟨⟨m0,m1⟩,_,_⟩:=hen;clear hS HX hu1 hu2;simp [Reg.finalTmps,Reg.dstAt,Reg.valOf,kV]
        go_wp2_with fail
        refine bodyPost_ret (v:=.tuple #[.agg #[.int .i64 (tu).kind,.int .i64 (k:Int),.int .i64 0,.int .u64 (tu).set.a,.int .u64 (tu).set.b,.int .u64 (tu).set.c,.int .u64 (tu).set.d,.int .i64 (tu).lo,.int .i64 (tu).hi,.bool (tu).lazy],.agg #[.int .i64 (j:Int),.int .i64 6]]) (by simp [results,Tryz.results94,go_sem,v0,v1,v2,v3,v4,v5,v6,v7,v8,v9,m0,m1]) rfl ⟨HF2.out,HB9.out⟩
      ·rw [jF h43];have HF:Hid (jd s k=(⟨5,j7,lo,hi,lz⟩,0,j)):=j0 (by rw [HCT.out,if_neg h43]);clear h43 HCT;have HF2:=j0 (oneOut (t:=⟨5,j7,lo,hi,lz⟩) (k:=(k:Int)) (x:=(j:Int)) HF.out (by omega) (fun _=>rfl));have HX:=HW6;clear HF HW6;generalize (⟨5,j7,lo,hi,lz⟩:jp)=tt at HF2 HX
       go_wp2_with fail
       refine Reg.wp_region_S (kV tt (k:Int) (j:Int) 0) (OneSr w tt (k:Int) (j:Int) 0) [0,1,2,3] (by rfl) (by kernel_rfl) (by kernel_rfl) ?_ ?_ ?_
       ·exact⟨⟨jg,0,HX.out.tk,fun e=>by simp at e⟩,⟨HX.out.en.at_,HX.out.en.free,HX.out.en.lt⟩,⟨HX.out.se.at_,HX.out.se.free,HX.out.se.lt⟩,HX.out.st,⟨HX.out.bel.os,HX.out.bel.tape,HX.out.bel.output,HX.out.bel.size,HX.out.bel.block⟩⟩
       ·refine Reg.oS (fun listed A X hI hin hun hall HS=> ?_) ?_
        ·have e8:=hI.wo 8 rfl;obtain⟨⟨z0,z1,z2,z3,z4,z5,z6,z7,z8,z9⟩,hz⟩:=ji HS.st;clear hI hall
         go_simp
         exact⟨rfl,HS.same (by decide) (by decide)⟩
        refine Reg.oS (fun listed A X hI hin hun hall HS=> ?_) ?_
        ·have e7:=hI.wo 7 rfl;obtain⟨⟨z0,z1⟩,⟨l0,l1⟩,hz⟩:=HS.se;clear hI hall
         go_simp
         exact⟨rfl,HS.same (by decide) (by decide)⟩
        refine Reg.oS (fun listed A X hI hin hun hall HS=> ?_) ?_
        ·have e4:=hI.wo 4 rfl;have e174:A.tmps[174]? =some (.agg #[.int .i64 (tt).kind,.int .i64 (k:Int),.int .i64 0,.int .u64 (tt).set.a,.int .u64 (tt).set.b,.int .u64 (tt).set.c,.int .u64 (tt).set.d,.int .i64 (tt).lo,.int .i64 (tt).hi,.bool (tt).lazy]):=hI.v hall 0 174;obtain⟨tu,ju,hu1,hu2⟩:=HS.tk;obtain⟨⟨v0,v1,v2,v3,v4,v5,v6,v7,v8,v9⟩,hu⟩:=jX hu1;obtain⟨⟨y0,y1,y2,y3,y4,y5,y6,y7,y8,y9⟩,_⟩:=ji hu1;have HS3:=j0 HS.put2;clear HS hu1 hu2;clear hI hall
         go_simp
         exact⟨rfl,HS3.out⟩
        refine Reg.oS (fun listed A X hI hin hun hall HS=> ?_) ?_
        ·have e5:=hI.wo 5 rfl;have e175:A.tmps[175]? =some (.agg #[.int .i64 (j:Int),.int .i64 0]):=hI.v hall 1 175;obtain⟨⟨u0,u1⟩,⟨v0,v1⟩,hu⟩:=HS.en;have HS3:=j0 (HS.put3 hin);clear HS;clear hI hall
         go_simp
         exact⟨rfl,HS3.out⟩
        trivial
       ·intro W9 hS;obtain⟨tu,ju,hu1,hu2⟩:=hS.tk;obtain⟨rfl,rfl⟩:=hu2 (by rfl);have hen:je W9 (w.heap.size+1) (j:Int) 0:=hS.en;have HB9:=j0 hS.bel;obtain⟨⟨v0,v1,v2,v3,v4,v5,v6,v7,v8,v9⟩,_⟩:=ji hu1;obtain⟨⟨m0,m1⟩,_,_⟩:=hen;clear hS HX hu1 hu2;simp [Reg.finalTmps,Reg.dstAt,Reg.valOf,kV]
        go_wp2_with fail
        refine bodyPost_ret (v:=.tuple #[.agg #[.int .i64 (tu).kind,.int .i64 (k:Int),.int .i64 0,.int .u64 (tu).set.a,.int .u64 (tu).set.b,.int .u64 (tu).set.c,.int .u64 (tu).set.d,.int .i64 (tu).lo,.int .i64 (tu).hi,.bool (tu).lazy],.agg #[.int .i64 (j:Int),.int .i64 0]]) (by simp [results,Tryz.results94,go_sem,v0,v1,v2,v3,v4,v5,v6,v7,v8,v9,m0,m1]) rfl ⟨HF2.out,HB9.out⟩
  ·have HF:=HNO hy;have hy1:((y:Int) !=0)=true:=by simp;omega
   have hy2:((y:Int)==0)=false:=by simp;omega
   have HNY:=j0 hy;clear HNO HYES hy;have HF2:=j0 (oneOut (t:=⟨5,j7,lo,hi,false⟩) (k:=(k:Int)) (x:=(x:Int)) HF.out (by omega) (fun h=>absurd h HNY.out));have HX:=HW5;clear HF HW5;generalize (⟨5,j7,lo,hi,false⟩:jp)=tt at HF2 HX
   go_wp2_with fail
   refine Reg.wp_region_S (kV tt (k:Int) (x:Int) y) (OneSr w tt (k:Int) (x:Int) y) [0,1,2,3] (by rfl) (by kernel_rfl) (by kernel_rfl) ?_ ?_ ?_
   ·exact⟨⟨jg,0,HX.out.tk,fun e=>by simp at e⟩,⟨HX.out.en.at_,HX.out.en.free,HX.out.en.lt⟩,⟨HX.out.se.at_,HX.out.se.free,HX.out.se.lt⟩,HX.out.st,⟨HX.out.bel.os,HX.out.bel.tape,HX.out.bel.output,HX.out.bel.size,HX.out.bel.block⟩⟩
   ·refine Reg.oS (fun listed A X hI hin hun hall HS=> ?_) ?_
    ·have e8:=hI.wo 8 rfl;obtain⟨⟨z0,z1,z2,z3,z4,z5,z6,z7,z8,z9⟩,hz⟩:=ji HS.st;clear hI hall
     go_simp
     exact⟨rfl,HS.same (by decide) (by decide)⟩
    refine Reg.oS (fun listed A X hI hin hun hall HS=> ?_) ?_
    ·have e7:=hI.wo 7 rfl;obtain⟨⟨z0,z1⟩,⟨l0,l1⟩,hz⟩:=HS.se;clear hI hall
     go_simp
     exact⟨rfl,HS.same (by decide) (by decide)⟩
    refine Reg.oS (fun listed A X hI hin hun hall HS=> ?_) ?_
    ·have e4:=hI.wo 4 rfl;have e142:A.tmps[142]? =some (.agg #[.int .i64 (tt).kind,.int .i64 (k:Int),.int .i64 0,.int .u64 (tt).set.a,.int .u64 (tt).set.b,.int .u64 (tt).set.c,.int .u64 (tt).set.d,.int .i64 (tt).lo,.int .i64 (tt).hi,.bool (tt).lazy]):=hI.v hall 0 142;obtain⟨tu,ju,hu1,hu2⟩:=HS.tk;obtain⟨⟨v0,v1,v2,v3,v4,v5,v6,v7,v8,v9⟩,hu⟩:=jX hu1;obtain⟨⟨y0,y1,y2,y3,y4,y5,y6,y7,y8,y9⟩,_⟩:=ji hu1;have HS3:=j0 HS.put2;clear HS hu1 hu2;clear hI hall
     go_simp
     exact⟨rfl,HS3.out⟩
    refine Reg.oS (fun listed A X hI hin hun hall HS=> ?_) ?_
    ·have e5:=hI.wo 5 rfl;have e143:A.tmps[143]? =some (.agg #[.int .i64 (x:Int),.int .i64 y]):=hI.v hall 1 143;obtain⟨⟨u0,u1⟩,⟨v0,v1⟩,hu⟩:=HS.en;have HS3:=j0 (HS.put3 hin);clear HS;clear hI hall
     go_simp
     exact⟨rfl,HS3.out⟩
    trivial
   ·intro W9 hS;obtain⟨tu,ju,hu1,hu2⟩:=hS.tk;obtain⟨rfl,rfl⟩:=hu2 (by rfl);have hen:je W9 (w.heap.size+1) (x:Int) y:=hS.en;have HB9:=j0 hS.bel;obtain⟨⟨v0,v1,v2,v3,v4,v5,v6,v7,v8,v9⟩,_⟩:=ji hu1;obtain⟨⟨m0,m1⟩,_,_⟩:=hen;clear hS HX hu1 hu2;simp [Reg.finalTmps,Reg.dstAt,Reg.valOf,kV]
    go_wp2_with fail
    refine bodyPost_ret (v:=.tuple #[.agg #[.int .i64 (tu).kind,.int .i64 (k:Int),.int .i64 0,.int .u64 (tu).set.a,.int .u64 (tu).set.b,.int .u64 (tu).set.c,.int .u64 (tu).set.d,.int .i64 (tu).lo,.int .i64 (tu).hi,.bool (tu).lazy],.agg #[.int .i64 (x:Int),.int .i64 y]]) (by simp [results,Tryz.results94,go_sem,v0,v1,v2,v3,v4,v5,v6,v7,v8,v9,m0,m1]) rfl ⟨HF2.out,HB9.out⟩
theorem YO(s:ByteArray)(k:Nat)(hk:k<s.size)(hs:s.size<=1099511627776)(w:World):
  Calls Tryz.prog 94 #[.string s,.int .i64 (k:Int)] w fun e w'=>OneOut (jd s k) (k:Int) e/\Below w.heap.size w w':=by
 by_cases h92:jl s k=92
 ·exact YK s k hk hs w h92
 ·by_cases h91:jl s k=91
  ·exact YM s k hk hs w h91
  ·by_cases h40:jl s k=40
   ·exact Xc s k hk hs w h40
   ·by_cases h41:jl s k=41
    ·exact V5 s k hk hs w h41
    ·by_cases h124:jl s k=124
     ·exact YN s k hk hs w h124
     ·by_cases h46:jl s k=46
      ·exact YL s k hk hs w h46
      ·by_cases h94:jl s k=94
       ·exact V6 s k hk hs w h94
       ·by_cases h36:jl s k=36
        ·exact V8 s k hk hs w h36
        ·by_cases h93:jl s k=93
         ·exact V7 s k hk hs w h93
         ·by_cases h125:jl s k=125
          ·exact U3 s k hk hs w h125
          ·cases hcn:J9 (jl s k)
           ·exact YJ s k hk hs w h92 h91 h40 h41 h124 h46 h94 h36 h93 h125 hcn
           ·exact V4 s k hk hs w h92 h91 h40 h41 h124 h46 h94 h36 h93 h125 hcn
end
end Go.Proofs.YtnmalggmbeipaaaGreatDoor
