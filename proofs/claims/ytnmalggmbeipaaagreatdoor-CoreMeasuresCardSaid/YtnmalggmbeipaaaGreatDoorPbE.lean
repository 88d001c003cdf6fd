/- A part of the proof. -/
import Derived.Test.YtnmalggmbeipaaaGreatDoorPbD
import Derived.Test.YtnmalggmbeipaaaGreatDoorRegion
import Derived.Carry
import Derived.Handy
set_option maxRecDepth 100000
set_option maxHeartbeats 16000000
namespace Go.Proofs.YtnmalggmbeipaaaGreatDoor
open Go Go.RowKit
attribute [local go_sem ↓] Go.wp_at_zero Go.wp_at_succ
attribute [local go_sem] qX
theorem U1(P:Program)(w:World)(a:Addr)(f:Fn)(x y:Array Value)(m:Mode):(store a (.func f x y) m).run P w=stored P w a (.func f x y) m:=run_store P w a _ m rfl
attribute [local go_sem] U1
def foW(w:World)(q:Nat)(F:Value):World:=
 ((((w.alloc (.map #[] 0)).alloc (.cells #[j6 q] 45)).alloc (vn 0 j7 0 0 false (.slice (some ⟨w.heap.size+1,0,none⟩) 1 1) 0 0)).alloc (.cells #[j6 (w.heap.size+1+1),.slice none 0 0] 238)).alloc
  (.cells #[F,.map (some w.heap.size),.slice (some ⟨w.heap.size+1+1+1,0,none⟩) 1 1] 241)
def yT(t:Tr):Tr:=.mk 0 j7 0 0 false 0 0 [t]
theorem fo_heap(w:World)(q:Nat)(F:Value):(foW w q F).heap.size=w.heap.size+5/\Below w.heap.size w (foW w q F)/\(foW w q F).heap[w.heap.size]? =some (.map #[] 0)/\(foW w q F).heap[w.heap.size+1]? =some (.cells #[j6 q] 45)/\(foW w q F).heap[w.heap.size+2]? =some (vn 0 j7 0 0 false (.slice (some ⟨w.heap.size+1,0,none⟩) 1 1) 0 0)/\
  (foW w q F).heap[w.heap.size+3]? =some (.cells #[j6 (w.heap.size+2),.slice none 0 0] 238)/\(foW w q F).heap[w.heap.size+4]? =some (.cells #[F,.map (some w.heap.size),.slice (some ⟨w.heap.size+3,0,none⟩) 1 1] 241):=by
 have b1:=j3 w (.map #[] 0);obtain⟨w1,e1⟩:∃X,X=w.alloc (.map #[] 0):=⟨_,rfl⟩;have s1:w1.heap.size=w.heap.size+1:=by rw [e1,World.size_alloc]
 have h1:w1.heap[w.heap.size]? =some (.map #[] 0):=by rw [e1];exact j1 _ _
 rw [<-e1] at b1;obtain⟨w2,e2⟩:∃X,X=w1.alloc (.cells #[j6 q] 45):=⟨_,rfl⟩;have b2:=j3 w1 (.cells #[j6 q] 45);have s2:w2.heap.size=w.heap.size+2:=by rw [e2,World.size_alloc,s1]
 have h2:w2.heap[w.heap.size+1]? =some (.cells #[j6 q] 45):=by rw [e2,<-s1];exact j1 _ _
 rw [<-e2] at b2;obtain⟨w3,e3⟩:∃X,X=w2.alloc (vn 0 j7 0 0 false (.slice (some ⟨w.heap.size+1,0,none⟩) 1 1) 0 0):=⟨_,rfl⟩;have b3:=j3 w2 (vn 0 j7 0 0 false (.slice (some ⟨w.heap.size+1,0,none⟩) 1 1) 0 0);have s3:w3.heap.size=w.heap.size+3:=by rw [e3,World.size_alloc,s2]
 have h3:w3.heap[w.heap.size+2]? =some (vn 0 j7 0 0 false (.slice (some ⟨w.heap.size+1,0,none⟩) 1 1) 0 0):=by rw [e3,<-s2];exact j1 _ _
 rw [<-e3] at b3;obtain⟨w4,e4⟩:∃X,X=w3.alloc (.cells #[j6 (w.heap.size+2),.slice none 0 0] 238):=⟨_,rfl⟩;have b4:=j3 w3 (.cells #[j6 (w.heap.size+2),.slice none 0 0] 238);have s4:w4.heap.size=w.heap.size+4:=by rw [e4,World.size_alloc,s3]
 have h4:w4.heap[w.heap.size+3]? =some (.cells #[j6 (w.heap.size+2),.slice none 0 0] 238):=by rw [e4,<-s3];exact j1 _ _
 rw [<-e4] at b4;obtain⟨w5,e5⟩:∃X,X=w4.alloc (.cells #[F,.map (some w.heap.size),.slice (some ⟨w.heap.size+3,0,none⟩) 1 1] 241):=⟨_,rfl⟩;have b5:=j3 w4 (.cells #[F,.map (some w.heap.size),.slice (some ⟨w.heap.size+3,0,none⟩) 1 1] 241);have s5:w5.heap.size=w.heap.size+5:=by rw [e5,World.size_alloc,s4]
 have h5:w5.heap[w.heap.size+4]? =some (.cells #[F,.map (some w.heap.size),.slice (some ⟨w.heap.size+3,0,none⟩) 1 1] 241):=by rw [e5,<-s4];exact j1 _ _
 rw [<-e5] at b5;have e:foW w q F=w5:=by rw [e5,e4,e3,e2,e1];rfl
 rw [e];refine⟨s5,b1.trans ((b2.mono (by omega)).trans ((b3.mono (by omega)).trans ((b4.mono (by omega)).trans (b5.mono (by omega))))),?_,?_,?_,?_,h5⟩
 ·rw [b5.block _ (by omega),b4.block _ (by omega),b3.block _ (by omega),b2.block _ (by omega)];exact h1
 ·rw [b5.block _ (by omega),b4.block _ (by omega),b3.block _ (by omega)];exact h2
 ·rw [b5.block _ (by omega),b4.block _ (by omega)];exact h3
 ·rw [b5.block _ (by omega)];exact h4
theorem fo_start(w:World)(q:Nat)(F:Value)(A:Nat->Prop)(jP:Tr->List Int->Int)(t:Tr)(ht:jJ w A t (j6 q)):
  xN w (foW w q F) (w.heap.size+3) (w.heap.size+4) w.heap.size jP (yT t) F [(⟨w.heap.size+2,[],.slice none 0 0⟩,yT t)]:=by
 obtain⟨hs,hb,h0,h1,h2,h3,h4⟩:=fo_heap w q F
 have ht1:jJ (foW w q F) (FoA (w.heap.size+3) w.heap.size) t (j6 q):=(ht.mono (A':=fun b=>b<w.heap.size) (fun b hb _=>hb)).same (fun b hb'=>hb.block b hb') hb.size|>.mono (fun b _ hb=>⟨by omega,by omega⟩)
 have hn:jJ (foW w q F) (FoA (w.heap.size+3) w.heap.size) (yT t) (j6 (w.heap.size+2)):=by
  refine .node 0 j7 0 0 false 0 0 [t] (w.heap.size+2) _ 1 (fun _=>j6 q) ⟨by omega,by omega⟩ h2 (fun i t' hi=> ?_) (fun i t' hi=> ?_)
  ·obtain rfl:i=0:=by have:=(List.getElem?_eq_some_iff.1 hi).1;simpa using this
   refine⟨w.heap.size+1,rfl,⟨by omega,by omega⟩,by omega,?_⟩;rw [jC h1];rfl
  ·obtain rfl:i=0:=by have:=(List.getElem?_eq_some_iff.1 hi).1;simpa using this
   obtain rfl:t=t':=by simpa using hi
   exact ht1
 refine⟨⟨[],w.heap.size+3,1,⟨?_,?_,?_,?_,by omega,by omega,?_,?_,?_,?_,?_⟩,⟨#[],0,h0,rfl⟩,⟨fun p hp=>by simp at hp,fun q y hq=>by simp [gotD] at hq⟩⟩,⟨⟨hn,by simp,by simp,by simp [yT,kM]⟩,rfl⟩,hb⟩
 ·rw [jC h4];rfl
 ·rw [jC h4];rfl
 ·rw [jC h4];rfl
 ·exact jU h4 _
 ·intro s hs';obtain rfl:s=⟨w.heap.size+2,[],.slice none 0 0⟩:=by simpa using hs'
  intro e;cases e
 ·exact⟨rfl,.inr ⟨_,1,_,rfl,by omega,h3,by simp,by decide,rfl,rfl⟩⟩
 ·intro s hs';obtain rfl:s=⟨w.heap.size+2,[],.slice none 0 0⟩:=by simpa using hs'
  exact World.ownsRow_nil _ _ _ _
 ·intro s hs';obtain rfl:s=⟨w.heap.size+2,[],.slice none 0 0⟩:=by simpa using hs'
  intro e;cases e
 ·exact List.pairwise_singleton _ _
theorem xN.drew{w0 W:World}{B fb mb:Nat}{jP:Tr->List Int->Int}{D0:Tr}{F:Value}{P:KT}(h:xN w0 W B fb mb jP D0 F P):xN w0 W.drew B fb mb jP D0 F P:=by
 obtain⟨⟨D,pb,cap,hF,hM,hV⟩,hch,hbel⟩:=h;have hb:Below W.heap.size W W.drew:=(Below.refl _ _).drew;exact⟨⟨D,pb,cap,hF.below hb,hM.below hb,hV.same (w':=W.drew) (fun _ _=>rfl) (jN _)⟩,ChOK.same (w:=W) (w':=W.drew) (fun _ _=>rfl) (jN _) hch,hbel.drew⟩
def kr(pb n sq:Nat)(vp:Option Addr)(k vc:Nat)(np:Option Addr)(ln nc:Nat)(bb:Bool):Nat->Value
 |0=>.pointer (some ⟨pb,n*2,none⟩)
 |1=>.pointer (some ⟨pb,n*2,none⟩)
 |2=>.pointer (some ⟨pb,n*2+1,none⟩)
 |3=>.slice vp k vc
 |4=>.int .i64 (k:Int)
 |5=>.pointer (some ⟨pb,n*2,none⟩)
 |6=>.pointer (some ⟨pb,n*2,none⟩)
 |7=>.pointer (some ⟨pb,n*2,none⟩)
 |8=>j6 sq
 |9=>j6 sq
 |10=>.pointer (some ⟨sq,8,none⟩)
 |11=>.slice np ln nc
 |12=>.int .i64 (ln:Int)
 |13=>.bool bb
 |14=>.bool bb
 |_=>undef
def qE(pb n sq:Nat)(vp:Option Addr)(k vc nb ln nc cq:Nat):Nat->Value
 |0=>.pointer (some ⟨pb,n*2,none⟩)
 |1=>.pointer (some ⟨pb,n*2,none⟩)
 |2=>.pointer (some ⟨pb,n*2,none⟩)
 |3=>j6 sq
 |4=>j6 sq
 |5=>.pointer (some ⟨sq,8,none⟩)
 |6=>.slice (some ⟨nb,0,none⟩) ln nc
 |7=>.pointer (some ⟨pb,n*2,none⟩)
 |8=>.pointer (some ⟨pb,n*2,none⟩)
 |9=>.pointer (some ⟨pb,n*2+1,none⟩)
 |10=>.slice vp k vc
 |11=>.int .i64 (k:Int)
 |12=>.pointer (some ⟨nb,k,none⟩)
 |13=>j6 cq
 |14=>.bool true
 |15=>.bool false
 |_=>undef
def vG:Nat->List (Nat×Nat)
 |0=> [(7,0)]
 |1=> [(39,1)]
 |2=> [(40,2)]
 |4=> [(42,4)]
 |5=> [(43,5)]
 |7=> [(7,0)]
 |8=> [(46,8)]
 |9=> [(47,9)]
 |11=> [(49,11)]
 |12=> [(45,7),(50,12)]
 |_=> []
def vH:Nat->List (Nat×Nat)
 |0=> [(7,0)]
 |1=> [(25,1)]
 |2=> [(26,2)]
 |4=> [(28,4)]
 |5=> [(7,0)]
 |6=> [(30,6)]
 |7=> [(31,7)]
 |9=> [(33,9)]
 |10=> [(34,10)]
 |12=> [(36,12)]
 |13=> [(29,5),(37,13)]
 |14=> [(38,14)]
 |_=> []
theorem pfold_any{w:World}{N:Nat}{jP:Tr->List Int->Int}{fn:FuncId}{caps:Array Value}(hcf:∀args W,(callFunc fn args).run Tryz.prog W=.ok (.enter fn args) W)
  (hN:NumC fn caps jP w N) (hpos:∀u,jc u<=N->jW jP u≠ -1) (hN2:N<=1099511627000) (t:Tr) (q:Nat) (A:Nat->Prop) (ht:jJ w A t (j6 q)) (hsz:jc t<=N):
  Calls Tryz.prog 96 #[.pointer (some ⟨q,0,none⟩),.func (.func fn) #[] caps] w fun e w'=>e=.returned (.tuple #[.int .i64 (jW jP t),.bool true])/\Below w.heap.size w w':=by
 have HT:=j0 ht;have HN:=j0 hN;have HP:=j0 hpos;have HCF:=j0 hcf;clear ht hN hpos hcf;have hmm:= @run_makeMap Tryz.prog
 go_enter Tryz.func96,Tryz.ntmps96
 go_wp2_with fail
 obtain⟨W0,hW0⟩:∃X,X=foW w q (.func (.func fn) #[] caps):=⟨_,rfl⟩;have hi:=fo_start w q (.func (.func fn) #[] caps) A jP t HT.out;have hD0:jc (yT t)<=N+1:=by rw [kI];simp [yT,kM,jz];omega
 rw [<-hW0] at hi;change Code.wp _ _ _ _ (foW w q (.func (.func fn) #[] caps));rw [<-hW0];have efb:w.heap.size+1+1+1+1=w.heap.size+4:=rfl;rw [efb];obtain⟨fb,hfb⟩:∃b,b=w.heap.size+4:=⟨_,rfl⟩;rw [<-hfb] at hi ⊢;obtain⟨B,hB⟩:∃b,b=w.heap.size+3:=⟨_,rfl⟩;rw [<-hB] at hi;obtain⟨mb,hmb⟩:∃b,b=w.heap.size:=⟨_,rfl⟩;rw [<-hmb] at hi;have HI:=j0 hi;have HD0:=j0 hD0;have hBf:B<=fb:=by omega
 have hm:w.heap.size<=mb:=by omega
 have hmB:mb<B:=by omega
 clear hW0 efb hi hfb hB hmb hmm hD0;have HBF:=j0 hBf;have HM:=j0 hm;have HMB:=j0 hmB;clear hBf hm hmB
 go_loopw [] (fun wr=>∃P,xN w wr B fb mb jP (yT t) (.func (.func fn) #[] caps) P) (fun wr=>Ki fun n=>∃P,xN w wr B fb mb jP (yT t) (.func (.func fn) #[] caps) P/\Q3 P=n)
 case atStart=>exact⟨_,HI.out⟩
 case round=>
  have hp:∃n,∃P,xN w wr B fb mb jP (yT t) (.func (.func fn) #[] caps) P/\Q3 P=n:=by
   obtain⟨P,h⟩:=hrel;exact⟨_,P,h,rfl⟩
  obtain⟨⟨P,hP,hPm⟩,_⟩:=KA hp
  obtain⟨s,u,r,rfl⟩:∃s u r,P=(s,u)::r:=by
   cases P with
   |nil=>exact hP.ch.elim
   |cons x r=>exact⟨x.1,x.2,r,rfl⟩
  have MS:Hid (∀w' P',xN w w' B fb mb jP (yT t) (.func (.func fn) #[] caps) P'->Q3 P'<Q3 ((s,u)::r)->(Ki fun n=>∃P,xN w w' B fb mb jP (yT t) (.func (.func fn) #[] caps) P/\Q3 P=n)<Ki fun n=>∃P,xN w wr B fb mb jP (yT t) (.func (.func fn) #[] caps) P/\Q3 P=n):=j0 fun w' P' h1 h2=>by
   rw [<-hPm];exact Nat.lt_of_le_of_lt ((KA (p:=fun n=>∃P,xN w w' B fb mb jP (yT t) (.func (.func fn) #[] caps) P/\Q3 P=n) ⟨_,P',h1,rfl⟩).2 _ ⟨P',h1,rfl⟩) h2
  clear hrel hp hPm;have HP1:=j0 hP;obtain⟨D,pb,cap,hF,hM,hV⟩:=hP.ex;have htop:=hP.ch.top;have htop:zx wr (FoA B mb) jP s u:=htop;rw [vw] at hF;obtain⟨n,hn⟩:∃n,n=r.length:=⟨_,rfl⟩;have hl:(r.reverse.map Prod.fst).length=n:=by simp [hn]
  have hl2:(r.reverse.map Prod.fst++ [s]).length=n+1:=by simp [hn]
  have hc2:=hF.c2;have ht:=hF.top;rw [hl2] at hc2;rw [hl] at ht;have hchs:jc u+r.length<=jc (yT t):=hP.ch.size.2;have hn40:n<=1099511627776:=by have:=HD0.out;omega
  have LA:=j0 (zE fb pb n cap wr hc2 hn40);have hnum:=Qw (hF.parts s (by simp));obtain⟨hAq,k1,s4,lo,hi,z,np,nc,a,b,hq,hkids⟩:=htop.nd.prt;obtain⟨vp,vc,hsv,hvc⟩:=hnum;have hle:=htop.le;have hln:(kM u).length<=1099511627776:=by have:=kZ (kM u);have:=kI u;have:=HD0.out;omega
  obtain⟨sq,hsq⟩:∃x,x=s.q:=⟨_,rfl⟩;obtain⟨k,hk⟩:∃x,x=s.ps.length:=⟨_,rfl⟩;obtain⟨ln,hlen⟩:∃x,x=(kM u).length:=⟨_,rfl⟩;rw [hsv,<-hk,<-hsq] at ht;rw [<-hsq,<-hlen] at hq;rw [<-hlen,<-hk] at hle;rw [<-hlen] at hln;have HT0:Hid (wr.drew.drew.cell? ⟨pb,n*2,none⟩=some (j6 sq)):=j0 ht.1;have HT1:Hid (wr.drew.drew.cell? ⟨pb,n*2+1,none⟩=some (.slice vp k vc)):=j0 ht.2.1;have HQ8:Hid (wr.drew.drew.cell? ⟨sq,8,none⟩=some (.slice np ln nc)):=j0 (jC hq 8);have HC2:Hid (wr.drew.drew.cell? ⟨fb,2,none⟩=some (.slice (some ⟨pb,0,none⟩) (n+1) cap)):=j0 hc2;have HCH:=j0 htop;have HKD:=j0 hkids;have HVC:=j0 hvc;have HK:=j0 hk;have HLEN:=j0 hlen;have HNR:=j0 hn;have HSQ:=j0 hsq;have HCHS:=j0 hchs;clear hF hM hV htop hc2 ht hq hkids hvc hk hlen hn hsq hsv hl hl2 hAq hP hchs;obtain⟨bb,hbb⟩:∃bb,bb=decide (k<ln):=⟨_,rfl⟩
  go_wp2_with fail
  refine LA.out.mono ?_;rintro e w1 ⟨rfl,hw1⟩;have HW1:Hid (w1.drew=wr.drew.drew):=j0 (by rw [hw1]);clear hw1 LA
  go_wp2_with fail
  obtain⟨W1,hW1⟩:∃X,X=wr.drew.drew:=⟨_,rfl⟩
  have HP2:Hid (xN w W1 B fb mb jP (yT t) (.func (.func fn) #[] caps) ((s,u)::r)):=j0 (by
   rw [hW1]
   exact HP1.out.drew.drew)
  rw [<-hW1] at HT0 HT1 HQ8 HC2 HW1
  have HKD1:Hid (∀(i:Nat) (t:Tr),(kM u)[i]? =some t->∃c c',np=some ⟨c,0,none⟩/\c<W1.heap.size/\W1.cell? ⟨c,i,none⟩=some (j6 c')/\jJ W1 (FoA B mb) t (j6 c')):=j0 (fun i t hi=>by
   rw [hW1];obtain⟨c,c',h1,h2,h3,h4⟩:=HKD.out i t hi
   exact⟨c,c',h1,h2,h3,h4.same (fun _ _=>rfl) (jN _)⟩)
  have HVC1:Hid (∀(i:Nat) (x:Int),s.ps[i]? =some x->∃c,vp=some ⟨c,0,none⟩/\c<W1.heap.size/\W1.cell? ⟨c,i,none⟩=some (.int .i64 x)):=j0 (by rw [hW1];exact HVC.out);clear hW1 HP1 HKD HVC;refine Reg.wp_region_S (kr pb n sq vp k vc np ln nc bb) (fun _ X=>X=W1) [0,1,2,3,4,5,6,7,8,9,10,11,12,13,14] (by rfl) (by kernel_rfl) (by kernel_rfl) ?_ ?_ ?_
  ·rw [HW1.out]
  ·iterate 3
    refine Reg.oS (fun listed A X hI hin hun hall HS=> ?_) ?_
    ·have E:=hI.tf hun hall vH;simp only [Reg.TF,vH,kr,Reg.la,Reg.lb,Reg.lc] at E;subst HS;clear hI hall
     go_simp
     first|rfl|exact⟨rfl,rfl⟩|(simp [kr,hbb];done)
   refine Reg.oS (fun listed A X hI hin hun hall HS=> ?_) ?_
   ·have e27:A.tmps[27]? =some (.pointer (some ⟨pb,n*2+1,none⟩)):=hI.v hall 2 27;subst HS;have k0:=HT1.out;clear hI hall
    go_simp
    first|rfl|exact⟨rfl,rfl⟩|(simp [kr,hbb];done)
   iterate 4
    refine Reg.oS (fun listed A X hI hin hun hall HS=> ?_) ?_
    ·have E:=hI.tf hun hall vH;simp only [Reg.TF,vH,kr,Reg.la,Reg.lb,Reg.lc] at E;subst HS;clear hI hall
     go_simp
     first|rfl|exact⟨rfl,rfl⟩|(simp [kr,hbb];done)
   refine Reg.oS (fun listed A X hI hin hun hall HS=> ?_) ?_
   ·have e32:A.tmps[32]? =some (.pointer (some ⟨pb,n*2,none⟩)):=hI.v hall 7 32;subst HS;have k0:=HT0.out;clear hI hall
    go_simp
    first|rfl|exact⟨rfl,rfl⟩|(simp [kr,hbb];done)
   iterate 2
    refine Reg.oS (fun listed A X hI hin hun hall HS=> ?_) ?_
    ·have E:=hI.tf hun hall vH;simp only [Reg.TF,vH,kr] at E;subst HS;clear hI hall
     go_simp
     first|rfl|exact⟨rfl,rfl⟩|(simp [kr,hbb];done)
   refine Reg.oS (fun listed A X hI hin hun hall HS=> ?_) ?_
   ·have e35:A.tmps[35]? =some (.pointer (some ⟨sq,8,none⟩)):=hI.v hall 10 35;subst HS;have k0:=HQ8.out;clear hI hall
    go_simp
    first|rfl|exact⟨rfl,rfl⟩|(simp [kr,hbb];done)
   iterate 3
    refine Reg.oS (fun listed A X hI hin hun hall HS=> ?_) ?_
    ·have E:=hI.tf hun hall vH;simp only [Reg.TF,vH,kr] at E;subst HS;clear hI hall
     go_simp
     first|rfl|exact⟨rfl,rfl⟩|(simp [kr,hbb];done)
   trivial
  ·intro W2 hS;obtain rfl:W1=W2:=hS.symm;clear hS HW1;simp [Reg.finalTmps,Reg.dstAt,Reg.valOf,kr]
   cases bb with
   |true=>
    have hlt:k<ln:=by simpa using hbb.symm
    clear hbb;have hidx:k<(kM u).length:=by rw [<-HLEN.out];exact hlt
    obtain⟨c,hc⟩:∃c,(kM u)[k]? =some c:=⟨_,List.getElem?_eq_getElem hidx⟩;obtain⟨nb,cq,rfl,hnb,hcell,hnd⟩:=HKD1.out k c hc;have hc':(kM u)[s.ps.length]? =some c:=by rw [<-HK.out];exact hc
    have HEN:=j0 (Zj HCF.out HN.out HP.out HD0.out hN2 HBF.out HM.out HMB.out HP2.out.drew hc' (hnd.same (w':=W1.drew) (fun _ _=>rfl) (jN _)));have HNB:Hid (W1.drew.cell? ⟨nb,k,none⟩=some (j6 cq)):=j0 hcell;have HT0:Hid (W1.drew.cell? ⟨pb,n*2,none⟩=some (j6 sq)):=HT0;have HT1:Hid (W1.drew.cell? ⟨pb,n*2+1,none⟩=some (.slice vp k vc)):=HT1;have HQ8:Hid (W1.drew.cell? ⟨sq,8,none⟩=some (.slice (some ⟨nb,0,none⟩) ln nc)):=HQ8;clear HKD1 HVC1 hc hc' hcell hnd HP2 HCH HC2 hidx HI
    go_wp2_with fail
    obtain⟨W3,hW3⟩:∃X,X=W1.drew:=⟨_,rfl⟩;rw [<-hW3] at HNB HT0 HT1 HQ8 HEN;have hnb3:nb<W3.heap.size:=by rw [hW3];exact hnb
    have HW3:Hid (W1.drew=W3):=j0 hW3.symm;clear hW3;refine Reg.wp_region_C (qE pb n sq vp k vc nb ln nc cq) (Reg.OneC 14 W3 (fun X=>∃P',xN w X B fb mb jP (yT t) (.func (.func fn) #[] caps) P'/\Q3 P'<Q3 ((s,u)::r))) [0,1,2,3,4,5,6,7,8,9,10,11,12,13,14,15] (by rfl) (by kernel_rfl) (by kernel_rfl) ?_ ?_ ?_
    ·rw [HW3.out];exact Reg.OneC.start _ _ _ _
    ·iterate 3
      refine Reg.oC (fun listed A X hI hcl hin hun hall HS=> ?_) ?_
      ·have E:=hI.tf hun hall vG;simp only [Reg.TF,vG,qE,Reg.la,Reg.lb,Reg.lc] at E;clear hI hall hcl
       go_simp
       first|rfl|exact⟨rfl,HS.up (by decide)⟩|(refine⟨?_,HS.up (by decide)⟩;simp [qE])
     refine Reg.oC (fun listed A X hI hcl hin hun hall HS=> ?_) ?_
     ·have e41:A.tmps[41]? =some (.pointer (some ⟨pb,n*2,none⟩)):=hI.v hall 2 41;have hX:=HS.at hcl (by kernel_rfl) hun;subst hX;have k0:=HT0.out;clear hI hall hcl
      go_simp
      first|rfl|exact⟨rfl,HS.up (by decide)⟩|(refine⟨?_,HS.up (by decide)⟩;simp [qE])
     iterate 2
      refine Reg.oC (fun listed A X hI hcl hin hun hall HS=> ?_) ?_
      ·have E:=hI.tf hun hall vG;simp only [Reg.TF,vG,qE] at E;clear hI hall hcl
       go_simp
       first|rfl|exact⟨rfl,HS.up (by decide)⟩|(refine⟨?_,HS.up (by decide)⟩;simp [qE])
     refine Reg.oC (fun listed A X hI hcl hin hun hall HS=> ?_) ?_
     ·have e44:A.tmps[44]? =some (.pointer (some ⟨sq,8,none⟩)):=hI.v hall 5 44;have hX:=HS.at hcl (by kernel_rfl) hun;subst hX;have k0:=HQ8.out;clear hI hall hcl
      go_simp
      first|rfl|exact⟨rfl,HS.up (by decide)⟩|(refine⟨?_,HS.up (by decide)⟩;simp [qE])
     iterate 3
      refine Reg.oC (fun listed A X hI hcl hin hun hall HS=> ?_) ?_
      ·have E:=hI.tf hun hall vG;simp only [Reg.TF,vG,qE,Reg.la,Reg.lb,Reg.lc] at E;clear hI hall hcl
       go_simp
       first|rfl|exact⟨rfl,HS.up (by decide)⟩|(refine⟨?_,HS.up (by decide)⟩;simp [qE])
     refine Reg.oC (fun listed A X hI hcl hin hun hall HS=> ?_) ?_
     ·have e48:A.tmps[48]? =some (.pointer (some ⟨pb,n*2+1,none⟩)):=hI.v hall 9 48;have hX:=HS.at hcl (by kernel_rfl) hun;subst hX;have k0:=HT1.out;clear hI hall hcl
      go_simp
      first|rfl|exact⟨rfl,HS.up (by decide)⟩|(refine⟨?_,HS.up (by decide)⟩;simp [qE])
     iterate 2
      refine Reg.oC (fun listed A X hI hcl hin hun hall HS=> ?_) ?_
      ·have E:=hI.tf hun hall vG;simp only [Reg.TF,vG,qE] at E;clear hI hall hcl
       go_simp
       first|rfl|exact⟨rfl,HS.up (by decide)⟩|(refine⟨?_,HS.up (by decide)⟩;simp [qE])
     refine Reg.oC (fun listed A X hI hcl hin hun hall HS=> ?_) ?_
     ·have e51:A.tmps[51]? =some (.pointer (some ⟨nb,k,none⟩)):=hI.v hall 12 51;have hX:=HS.at hcl (by kernel_rfl) hun;subst hX;have k0:=HNB.out;clear hI hall hcl
      go_simp
      first|rfl|exact⟨rfl,HS.up (by decide)⟩|(refine⟨?_,HS.up (by decide)⟩;simp [qE])
     refine Reg.oC (fun listed A X hI hcl hin hun hall HS=> ?_) ?_
     ·have e6:=hI.wo 6 rfl;have e52:A.tmps[52]? =some (j6 cq):=hI.v hall 13 52;have hn14:listed.getD 14 false=false:=by simpa using hun
      have hX:=(HS.ahead hn14).symm;subst hX;have EN:=HEN.out;clear hI hall hcl
      go_simp
      exact EN.mono fun e w'' ⟨he,hp⟩=>⟨_,he,rfl,Reg.OneC.put hin hp⟩
     refine Reg.oC (fun listed A X hI hcl hin hun hall HS=> ?_) ?_
     ·have e53:A.tmps[53]? =some (.bool true):=hI.v hall 14 53;clear hI hall hcl
      go_simp
      first|rfl|exact⟨rfl,HS.up (by decide)⟩|(refine⟨?_,HS.up (by decide)⟩;simp [qE])
     trivial
    ·intro W4 hS;have H4:=j0 (hS.done (by rfl));clear hS HEN HT0 HT1 HQ8 HNB;simp [Reg.finalTmps,Reg.dstAt,Reg.valOf,qE]
     go_wp2_with fail
     go_roundw
     case rel=>
      obtain⟨P',h1,h2⟩:=H4.out;exact⟨P',h1⟩
     case measure=>
      obtain⟨P',h1,h2⟩:=H4.out;exact MS.out _ P' h1 h2
   |false=>
    have hlt:¬k<ln:=by simpa using hbb.symm
    clear hbb
    cases r with
    |cons y r'=>
     obtain⟨s0,u0⟩:=y;have HLV:=j0 (Zh HCF.out HN.out HD0.out hN2 HBF.out HM.out HMB.out HP2.out (by rw [<-HK.out,<-HLEN.out];exact hlt));obtain⟨n',rfl⟩:∃n',n=n'+1:=⟨n-1,by have:=HNR.out;simp at this;omega⟩;have hgt:(1:Int)<((n'+1:Nat):Int)+1:=by omega
     have hgt2:(1:Int)<(n':Int)+1+1:=by omega
     have k2:=HC2.out;clear HKD1 HVC1 HP2 HCH HI HT0 HT1 HQ8 HNR
     go_wp2_with fail
     refine HLV.out.mono ?_;rintro e w4 ⟨rfl,h4⟩;have H4:=j0 h4;clear h4 HLV
     go_wp2_with fail
     go_roundw
     case rel=>
      obtain⟨P',h1,h2⟩:=H4.out;exact⟨P',h1⟩
     case measure=>
      obtain⟨P',h1,h2⟩:=H4.out;exact MS.out _ P' h1 h2
    |nil=>
     obtain rfl:n=0:=HNR.out;have hu:u=yT t:=HP2.out.ch.2
     have hps:s.ps= [jW jP t]:=by
      have h1:=HCH.out.full (by rw [<-HK.out,<-HLEN.out];exact hlt);rw [h1,hu];rfl
     obtain rfl:k=1:=by rw [HK.out,hps];rfl
     obtain⟨c,rfl,hcl,hcell⟩:=HVC1.out 0 (jW jP t) (by rw [hps];rfl);have HB:=j0 HP2.out.bel;have HT1:Hid (W1.cell? ⟨pb,1,none⟩=some (.slice (some ⟨c,0,none⟩) 1 vc)):=HT1;have k0:=HT1.out;have k2:=HC2.out;clear HKD1 HVC1 HP2 HCH HI HT0 HQ8 HNR
     go_wp2_with fail
     exact bodyPost_ret (v:=.tuple #[.int .i64 (jW jP t),.bool true]) (by simp [results,Tryz.results96,go_sem]) rfl ⟨rfl,HB.out⟩
end Go.Proofs.YtnmalggmbeipaaaGreatDoor
