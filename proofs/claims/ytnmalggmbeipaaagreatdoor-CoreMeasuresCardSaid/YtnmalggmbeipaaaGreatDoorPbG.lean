/- A part of the proof. -/
import Derived.Test.YtnmalggmbeipaaaGreatDoorPbE
import Derived.Deep.DeepCutAuto
set_option maxRecDepth 100000
set_option maxHeartbeats 16000000
namespace Go.Proofs.YtnmalggmbeipaaaGreatDoor
section
open Go Go.RowKit
attribute [local go_sem ↓] Go.wp_at_zero Go.wp_at_succ
attribute [local go_sem] qX
theorem YC(v:Value)(ks:List Int)(x:Int)(w:World)(hv:NumsAt w v ks)(hn:ks.length<=1099511627776):
  Calls Tryz.prog 226 #[v,.int .i64 x] w fun e w'=>∃r:Int,e=.returned (.int .i64 r)/\(0<=r ↔ x∈ks)/\w'=w:=by
 obtain⟨p,cap,rfl,hc⟩:=hv;have HC:=j0 hc;clear hc
 go_enter Tryz.func226,Tryz.ntmps226
 go_wp2_with fail
 go_loopw [8] (fun i wr=>∃j:Nat,j<=ks.length/\i=.int .i64 j/\Hid (x ∉ ks.take j)/\wr=w) (fun i _=>ks.length-(intOf i).toNat)
 case atStart=>exact⟨0,by omega,rfl,j0 (by simp),rfl⟩
 case round=>
  obtain⟨j,hj,rfl,hx,hwr⟩:=hrel;obtain rfl:w=wr:=hwr.symm
  by_cases hlt:j<ks.length
  ·obtain⟨y,hy⟩:∃y,ks[j]? =some y:=⟨_,List.getElem?_eq_getElem hlt⟩;obtain⟨c,rfl,hcl,hcell⟩:=HC.out j y hy;have HY:=j0 hy;clear hy
   by_cases hxy:x=y
   ·subst hxy
    go_wp2_with fail
    go_ret
    exact⟨(j:Int),rfl,⟨fun _=>List.mem_of_getElem? HY.out,fun _=>by omega⟩,rfl⟩
   ·have hb:(x==y)=false:=by simpa using hxy
    have HXY:=j0 hxy;clear hxy
    go_wp2_with fail
    go_roundw
    case rel=>
     refine⟨j+1,by omega,by go_num,j0 ?_,by first|rfl|trivial⟩;rw [List.take_add_one,HY.out];intro h
     rcases List.mem_append.1 h with h|h
     ·exact hx.out h
     ·exact HXY.out (by simpa using h)
    case measure=>simp [intOf];omega
  ·obtain rfl:j=ks.length:=by omega
   have HX:Hid (x ∉ ks):=j0 (by have:=hx.out;rwa [List.take_length] at this);clear hx
   go_wp2_with fail
   go_ret
   exact⟨-1,rfl,⟨fun h=>absurd h (by decide),fun h=>absurd h HX.out⟩,rfl⟩
theorem QY(v:Value)(ks:List Int)(x:Int)(w:World)(hv:NumsAt w v ks)(hn:ks.length<=1099511627776):
  Calls Tryz.prog 197 #[v,.int .i64 x] w fun e w'=>e=.returned (.bool (decide (x∈ks)))/\w'=w:=by
 have IX:=j0 (YC v ks x w hv hn);obtain⟨b,hb⟩:∃b,b=decide (x∈ks):=⟨_,rfl⟩;rw [<-hb];have HBB:=j0 hb;clear hv hb
 go_enter Tryz.func197,Tryz.ntmps197
 go_wp2_with fail
 refine IX.out.mono ?_;rintro e w1 ⟨r,rfl,hr,hw⟩;obtain rfl:w=w1:=hw.symm;have hrb:decide (0<=r)=b:=by rw [HBB.out];exact decide_eq_decide.2 hr
 clear hr IX
 go_wp2_with fail
 refine bodyPost_ret (v:=.bool b) (by simp [results,Tryz.results197,go_sem]) rfl ⟨rfl,rfl⟩
def vZ(q:Nat)(v:Value)(k:Int)(b:Bool):Nat->Value
 |0=>j6 q
 |1=>.bool false
 |2=>.bool false
 |3=>v
 |4=>j6 q
 |5=>j6 q
 |6=>j6 q
 |7=>.int .i64 k
 |8=>.bool b
 |9=>.bool b
 |10=>.bool b
 |_=>undef
def JM:Nat->List (Nat×Nat)
 |0=> [(0,0)]
 |1=> [(4,1)]
 |2=> [(5,2)]
 |9=> [(6,3),(12,9)]
 |10=> [(13,10)]
 |_=> []
theorem QX(q cb:Nat)(k:Int)(v:Value)(ks:List Int)(w:World)(hq:w.cell? ⟨q,0,none⟩=some (.int .i64 k))(hcb:w.cell? ⟨cb,0,none⟩=some v)(hv:NumsAt w v ks)(hn:ks.length<=1099511627776):
  Calls Tryz.prog 196 (#[j6 q]++ #[.pointer (some ⟨cb,0,none⟩)]) w fun e w'=>e=.returned (.bool (decide (k∈ks)))/\w'=w.drew:=by
 have HCT:=j0 (QY v ks k w.drew (hv.below (Below.refl _ _).drew) hn);have HQ0:Hid (w.drew.cell? ⟨q,0,none⟩=some (.int .i64 k)):=j0 hq;have HV:Hid (w.drew.cell? ⟨cb,0,none⟩=some v):=j0 hcb;clear hq hcb hv;obtain⟨b,hb⟩:∃b,b=decide (k∈ks):=⟨_,rfl⟩;rw [<-hb] at HCT ⊢;clear hb
 go_enter Tryz.func196,Tryz.ntmps196
 go_wp2_with fail
 obtain⟨W,hW⟩:∃X,X=w.drew:=⟨_,rfl⟩;rw [<-hW] at HCT HQ0 HV;have HW:Hid (w.drew=W):=j0 hW.symm;clear hW;refine Reg.wp_region_S (vZ q v k b) (fun _ X=>X=W) [0,1,2,3,4,5,6,7,8,9,10] (by rfl) (by kernel_rfl) (by kernel_rfl) ?_ ?_ ?_
 ·rw [HW.out]
 ·iterate 3
   refine Reg.oS (fun listed A X hI hin hun hall HS=> ?_) ?_
   ·have E:=hI.tf hun hall JM;simp only [Reg.TF,JM,vZ,Reg.la,Reg.lb] at E;subst HS;clear hI hall
    go_simp
    first|rfl|exact⟨rfl,rfl⟩|(simp [vZ];done)
  refine⟨fun listed A X hI hin hun hall=>.inl ⟨(Reg.ws hI hall 2 6 false).trans rfl,?_⟩,?_⟩
  ·have e1:=hI.wo 1 rfl;have HS:=hI.st;subst HS;have k0:=HV.out;clear hI hall;unfold Reg.Yields
   go_simp
   first|rfl|exact⟨rfl,rfl⟩|(simp [vZ];done)
  refine⟨fun listed A X hI hin hun hall=>.inl ⟨(Reg.ws hI hall 2 6 false).trans rfl,?_⟩,?_⟩
  ·have e0:=hI.wo 0 rfl;have HS:=hI.st;subst HS;clear hI hall;unfold Reg.Yields
   go_simp
   first|rfl|exact⟨rfl,rfl⟩|(simp [vZ];done)
  refine⟨fun listed A X hI hin hun hall=>.inl ⟨(Reg.ws hI hall 2 6 false).trans rfl,?_⟩,?_⟩
  ·have e8:A.tmps[8]? =some (j6 q):=hI.v hall 4 8;have HS:=hI.st;subst HS;clear hI hall;unfold Reg.Yields
   go_simp
   first|rfl|exact⟨rfl,rfl⟩|(simp [vZ];done)
  refine⟨fun listed A X hI hin hun hall=>.inl ⟨(Reg.ws hI hall 2 6 false).trans rfl,?_⟩,?_⟩
  ·have e9:A.tmps[9]? =some (j6 q):=hI.v hall 5 9;have HS:=hI.st;subst HS;clear hI hall;unfold Reg.Yields
   go_simp
   first|rfl|exact⟨rfl,rfl⟩|(simp [vZ];done)
  refine⟨fun listed A X hI hin hun hall=>.inl ⟨(Reg.ws hI hall 2 6 false).trans rfl,?_⟩,?_⟩
  ·have e10:A.tmps[10]? =some (.pointer (some ⟨q,0,none⟩)):=hI.v hall 6 10;have HS:=hI.st;subst HS;have k0:=HQ0.out;clear hI hall;unfold Reg.Yields
   go_simp
   first|rfl|exact⟨rfl,rfl⟩|(simp [vZ];done)
  refine⟨fun listed A X hI hin hun hall=>.inl ⟨(Reg.ws hI hall 2 6 false).trans rfl,?_⟩,?_⟩
  ·have e7:A.tmps[7]? =some (v):=hI.v hall 3 7;have e11:A.tmps[11]? =some (.int .i64 k):=hI.v hall 7 11;have HS:=hI.st;subst HS;have CT:=HCT.out;clear hI hall;unfold Reg.Yields
   go_simp
   exact CT.mono fun e w'' ⟨he,hw⟩=>⟨_,he,rfl,hw⟩
  iterate 2
   refine Reg.oS (fun listed A X hI hin hun hall HS=> ?_) ?_
   ·have E:=hI.tf hun hall JM;simp only [Reg.TF,JM,vZ] at E;subst HS;clear hI hall
    go_simp
    first|rfl|exact⟨rfl,rfl⟩|(simp [vZ];done)
  trivial
 ·intro W9 hS;have HS9:=j0 hS;clear hS;simp [Reg.finalTmps,Reg.dstAt,Reg.valOf,vZ]
  go_wp2_with fail
  refine bodyPost_ret (v:=.bool b) (by simp [results,Tryz.results196,go_sem]) rfl ⟨rfl,HS9.out.trans HW.out.symm⟩
theorem VZ(np:Option Addr)(ln nc:Nat)(us:Nat->Value)(fn:FuncId)(caps:Array Value)(P:Nat->Bool)(w:World)(hcf:∀args W,(callFunc fn args).run Tryz.prog W=.ok (.enter fn args) W)(hn:ln<=1099511627776)
  (hu:∀i,i<ln->∃c,np=some ⟨c,0,none⟩/\c<w.heap.size/\w.cell? ⟨c,i,none⟩=some (us i))
  (hp:∀X i,Below w.heap.size w X->i<ln->Calls Tryz.prog fn (#[us i]++caps) X fun e w'=>e=.returned (.bool (P i))/\Below X.heap.size X w'):
  Calls Tryz.prog 225 #[.slice np ln nc,.func (.func fn) #[] caps] w fun e w'=>∃r:Int,e=.returned (.int .i64 r)/\(0<=r ↔ ∃i,i<ln/\P i=true)/\Below w.heap.size w w':=by
 have HU:=j0 hu;have HP:=j0 hp;clear hu hp
 go_enter Tryz.func225,Tryz.ntmps225
 go_wp2_with fail
 go_loopw [8] (fun i wr=>∃j:Nat,j<=ln/\i=.int .i64 j/\Hid (∀i,i<j->P i=false)/\Hid (Below w.heap.size w wr)) (fun i _=>ln-(intOf i).toNat)
 case atStart=>exact⟨0,by omega,rfl,j0 (fun i hi=>absurd hi (by omega)),j0 (Below.refl _ _)⟩
 case round=>
  obtain⟨j,hj,rfl,hx,hwr⟩:=hrel
  by_cases hlt:j<ln
  ·obtain⟨c,rfl,hcl,hcell⟩:=HU.out j hlt;have k0:wr.cell? ⟨c,j,none⟩=some (us j):=(World.cell?_of_block (w:=w) (a:=⟨c,j,none⟩) (hwr.out.block c hcl)).trans hcell;have CN:=j0 (HP.out wr j hwr.out hlt);clear hcell;obtain⟨b,hb⟩:∃b,b=P j:=⟨_,rfl⟩;rw [<-hb] at CN;have HB:=j0 hb;clear hb;generalize us j=uj at*
   go_wp2_with fail
   refine CN.out.mono ?_;rintro e w1 ⟨rfl,hw1⟩;have H1:=j0 (hwr.out.trans (hw1.mono hwr.out.size));clear hw1 CN k0
   cases b with
   |true=>
    go_wp2_with fail
    go_ret
    exact⟨(j:Int),rfl,⟨fun _=>⟨j,hlt,HB.out.symm⟩,fun _=>by omega⟩,H1.out⟩
   |false=>
    go_wp2_with fail
    go_roundw
    case rel=>
     refine⟨j+1,by omega,by go_num,j0 (fun i hi=> ?_),H1⟩
     by_cases h:i=j
     ·rw [h];exact HB.out.symm
     ·exact hx.out i (by omega)
    case measure=>simp [intOf];omega
  ·obtain rfl:j=ln:=by omega
   go_wp2_with fail
   go_ret
   exact⟨-1,rfl,⟨fun h=>absurd h (by decide),fun⟨i,h1,h2⟩=>by rw [hx.out i h1] at h2;cases h2⟩,hwr.out⟩
theorem Qf(np:Option Addr)(ln nc:Nat)(us:Nat->Value)(fn:FuncId)(caps:Array Value)(P:Nat->Bool)(w:World)(hcf:∀args W,(callFunc fn args).run Tryz.prog W=.ok (.enter fn args) W)(hn:ln<=1099511627776)
  (hu:∀i,i<ln->∃c,np=some ⟨c,0,none⟩/\c<w.heap.size/\w.cell? ⟨c,i,none⟩=some (us i))
  (hp:∀X i,Below w.heap.size w X->i<ln->Calls Tryz.prog fn (#[us i]++caps) X fun e w'=>e=.returned (.bool (P i))/\Below X.heap.size X w'):
  Calls Tryz.prog 195 #[.slice np ln nc,.func (.func fn) #[] caps] w fun e w'=>∃b:Bool,e=.returned (.bool b)/\(b=true ↔ ∃i,i<ln/\P i=true)/\Below w.heap.size w w':=by
 have IX:=j0 (VZ np ln nc us fn caps P w hcf hn hu hp);clear hu hp hcf
 go_enter Tryz.func195,Tryz.ntmps195
 go_wp2_with fail
 refine IX.out.mono ?_;rintro e w1 ⟨r,rfl,hr,hw⟩;have HR:=j0 hr;have HW:=j0 hw;clear hr hw IX
 go_wp2_with fail
 refine bodyPost_ret (v:=.bool (decide (0<=r))) (by simp [results,Tryz.results195,go_sem]) rfl ⟨_,rfl,?_,HW.out⟩;rw [decide_eq_true_eq];exact HR.out
theorem XV(args:Array Value)(W:World):(callFunc 196 args).run Tryz.prog W=.ok (.enter 196 args) W:=by
 simp [callFunc,Tryz.func196,mark,Sem.run];rfl
def xr:Tr->Int
 | .mk k _ _ _ _ _ _ _=>k
def kf(l:List Tr)(ks:List Int):Bool:=l.all fun t=> !decide (xr t∈ks)
theorem UV(A:Nat->Prop)(np:Option Addr)(l:List Tr)(nc:Nat)(v:Value)(ks:List Int)(w:World)(hl:l.length<=1099511627776)
  (hk:∀(i:Nat) (t:Tr),l[i]? =some t->∃c c',np=some ⟨c,0,none⟩/\c<w.heap.size/\w.cell? ⟨c,i,none⟩=some (j6 c')/\jJ w A t (j6 c')) (hv:NumsAt w v ks) (hn:ks.length<=1099511627776):
  Calls Tryz.prog 148 #[.slice np l.length nc,v] w fun e w'=>e=.returned (.bool (kf l ks))/\Below w.heap.size w w':=by
 obtain⟨vp,vc,hve⟩:∃vp vc,v=.slice vp ks.length vc:=by
  obtain⟨p,c,h,_⟩:=hv;exact⟨p,c,h⟩
 subst hve
 have hex:∀i,∃c',∀t,l[i]? =some t->∃c,np=some ⟨c,0,none⟩/\c<w.heap.size/\w.cell? ⟨c,i,none⟩=some (j6 c')/\jJ w A t (j6 c'):=fun i=>by
  cases h:l[i]? with
  |none=>exact⟨0,fun t ht=>by cases ht⟩
  |some t=>
   obtain⟨c,c',h1⟩:=hk i t h;exact⟨c',fun t' ht'=>by rw [Option.some.inj ht'] at h1;exact⟨c,h1⟩⟩
 obtain⟨us,hus⟩:∃us:Nat->Nat,∀i t,l[i]? =some t->∃c,np=some ⟨c,0,none⟩/\c<w.heap.size/\w.cell? ⟨c,i,none⟩=some (j6 (us i))/\jJ w A t (j6 (us i)):=⟨fun i=>(hex i).choose,fun i t ht=>(hex i).choose_spec t ht⟩;obtain⟨W,hW⟩:∃X,X=w.alloc (.cells #[.slice vp ks.length vc] 60):=⟨_,rfl⟩;have hb:Below w.heap.size w W:=by rw [hW];exact j3 _ _
 have hcb:W.heap[w.heap.size]? =some (.cells #[.slice vp ks.length vc] 60):=by rw [hW];exact j1 _ _
 have CF:=j0 (Qf np l.length nc (fun i=>j6 (us i)) 196 #[.pointer (some ⟨w.heap.size,0,none⟩)] (fun i=>match l[i]? with|some t=>decide (xr t∈ks)|none=>false) W XV hl (fun i hi=>by
   obtain⟨c,h1,h2,h3,_⟩:=hus i _ (List.getElem?_eq_getElem hi)
   exact⟨c,h1,Nat.lt_of_lt_of_le h2 hb.size,(World.cell?_of_block (w:=w) (a:=⟨c,i,none⟩) (hb.block c h2)).trans h3⟩) (fun X i hX hi=>by
   obtain⟨c,h1,h2,h3,h4⟩:=hus i _ (List.getElem?_eq_getElem hi);rw [List.getElem?_eq_getElem hi];have hbX:=hb.trans (hX.mono hb.size);have h5:=h4.up hbX
   cases ht:l[i] with
   |mk k s lo hi z a b l'=>
    rw [ht] at h5;obtain⟨q',p',cap',e,_,hq,_⟩:=h5.head;injection e with e;injection e with e;injection e with e;subst e;refine(QX (us i) w.heap.size k _ ks X (jC hq 0) (jC ((hX.block _ (jS hcb)).trans hcb) 0) (hv.below hbX) hn).mono ?_;rintro e w' ⟨rfl,rfl⟩
    exact⟨rfl,(Below.refl _ _).drew⟩))
 have hres:∀b:Bool,(b=true ↔ ∃i,i<l.length/\(match l[i]? with|some t=>decide (xr t∈ks)|none=>false)=true)->(!b)=kf l ks:=by
  intro b hb
  have key:kf l ks=false ↔ ∃i,i<l.length/\(match l[i]? with|some t=>decide (xr t∈ks)|none=>false)=true:=by
   unfold kf
   constructor
   ·intro h;obtain⟨t,ht,h2⟩:=List.all_eq_false.1 h;obtain⟨i,hi,e⟩:=List.getElem_of_mem ht;refine⟨i,hi,?_⟩;rw [List.getElem?_eq_getElem hi,e];simpa using h2
   ·rintro⟨i,hi,h⟩;rw [List.getElem?_eq_getElem hi] at h;refine List.all_eq_false.2 ⟨l[i],List.getElem_mem hi,?_⟩;simpa using h
  cases b with
  |true=>simp only [Bool.not_true];exact(key.2 (hb.1 rfl)).symm
  |false=>
   simp only [Bool.not_false]
   cases h:kf l ks with
   |true=>rfl
   |false=>exact absurd (hb.2 (key.1 h)) (by decide)
 have HRES:=j0 hres;have HB:=j0 hb;generalize kf l ks=res at*;clear hex hus hk hv hcb hres hb
 go_enter Tryz.func148,Tryz.ntmps148
 go_wp2_with fail
 rw [<-hW];clear hW;refine CF.out.mono ?_;rintro e w1 ⟨b,rfl,h1,h2⟩;have H1:=j0 (HRES.out b h1);have H2:=j0 (HB.out.trans (h2.mono HB.out.size));clear h1 h2 CF HRES
 go_wp2_with fail
 refine bodyPost_ret (v:=.bool (!b)) (by simp [results,Tryz.results148,go_sem]) rfl ⟨by rw [H1.out],H2.out⟩
def qM(hi:Int):Int:=if hi= -1 then 1000 else hi
def kS(lo hi:Int):Bool:=decide (0<=lo) && (decide (lo<=qM hi) && decide (qM hi<=1000))
theorem UZ(lo hi:Int)(w:World):Calls Tryz.prog 149 #[.int .i64 lo,.int .i64 hi] w fun e w'=>e=.returned (.bool (kS lo hi))/\w'=w:=by
 obtain⟨m,hm⟩:∃m,m=qM hi:=⟨_,rfl⟩;have HR:Hid (kS lo hi=(decide (0<=lo) && (decide (lo<=m) && decide (m<=1000)))):=j0 (by rw [hm];rfl);have HM:=j0 hm;clear hm;generalize kS lo hi=res at*
 have key:Calls Tryz.prog 149 #[.int .i64 lo,.int .i64 hi] w fun e w'=>e=.returned (.bool (decide (0<=lo) && (decide (lo<=m) && decide (m<=1000))))/\w'=w:=by
  clear HR
  by_cases h0:hi= -1
  ·subst h0;obtain rfl:m=1000:=by rw [HM.out];rfl
   clear HM
   by_cases h1:0<=lo
   ·by_cases h2:lo<=1000
    ·go_enter Tryz.func149,Tryz.ntmps149
     go_wp2_with fail
     exact bodyPost_ret (v:=.bool true) (by simp [results,Tryz.results149,go_sem]) rfl ⟨by simp [h1,h2],rfl⟩
    ·go_enter Tryz.func149,Tryz.ntmps149
     go_wp2_with fail
     exact bodyPost_ret (v:=.bool false) (by simp [results,Tryz.results149,go_sem]) rfl ⟨by simp only [Ending.returned.injEq,Value.bool.injEq];symm;simp;omega,rfl⟩
   ·go_enter Tryz.func149,Tryz.ntmps149
    go_wp2_with fail
    exact bodyPost_ret (v:=.bool false) (by simp [results,Tryz.results149,go_sem]) rfl ⟨by simp only [Ending.returned.injEq,Value.bool.injEq];symm;simp;omega,rfl⟩
  ·obtain rfl:m=hi:=by rw [HM.out];exact if_neg h0
   clear HM;have hb:(m== -1)=false:=by simpa using h0
   clear h0
   by_cases h1:0<=lo
   ·by_cases h2:lo<=m
    ·by_cases h3:m<=1000
     ·go_enter Tryz.func149,Tryz.ntmps149
      go_wp2_with fail
      exact bodyPost_ret (v:=.bool true) (by simp [results,Tryz.results149,go_sem]) rfl ⟨by simp [h1,h2,h3],rfl⟩
     ·go_enter Tryz.func149,Tryz.ntmps149
      go_wp2_with fail
      exact bodyPost_ret (v:=.bool false) (by simp [results,Tryz.results149,go_sem]) rfl ⟨by simp only [Ending.returned.injEq,Value.bool.injEq];symm;simp;omega,rfl⟩
    ·go_enter Tryz.func149,Tryz.ntmps149
     go_wp2_with fail
     exact bodyPost_ret (v:=.bool false) (by simp [results,Tryz.results149,go_sem]) rfl ⟨by simp only [Ending.returned.injEq,Value.bool.injEq];symm;simp;omega,rfl⟩
   ·go_enter Tryz.func149,Tryz.ntmps149
    go_wp2_with fail
    exact bodyPost_ret (v:=.bool false) (by simp [results,Tryz.results149,go_sem]) rfl ⟨by simp only [Ending.returned.injEq,Value.bool.injEq];symm;simp;omega,rfl⟩
 refine key.mono ?_;rintro e w' ⟨rfl,rfl⟩;exact⟨by rw [HR.out],rfl⟩
def Kz(s:W4):Bool:=s.a==0 && s.b==0 && s.c==0 && s.d==0
def soundS(k:Int)(s:W4):Bool:= !decide (k=1) && !Kz s
def soundN(k lo hi:Int)(z:Bool):Bool:= !decide (k=6) && (!decide (lo=0)||(!decide (hi=0)||z))
def soundK(k lo hi:Int)(l:List Tr):Bool:=
 if k=0\/k=1 then decide (l.length=0) else if k=2\/k=3 then decide (l.length=1) && kf l [] else if k=4 then decide (1<l.length) && kf l [0,4,5]
 else if k=5 then decide (1<l.length) && kf l [5] else if k=6 then decide (l.length=1) && (kf l [0,4,5,6] && kS lo hi) else false
def J4:Tr->Bool
 | .mk k s lo hi z _ _ l=> !soundS k s && (!soundN k lo hi z && soundK k lo hi l)
def jx(q:Nat)(np:Option Addr)(ln nc nb:Nat)(lo hi:Int)(b1 b cr:Bool):Nat->Value
 |0=>j6 q
 |1=>j6 q
 |2=>.pointer (some ⟨q,8,none⟩)
 |3=>.slice np ln nc
 |4=>.int .i64 (ln:Int)
 |5=>.bool b1
 |6=>.bool b1
 |7=>if b1 then j6 q else undef
 |8=>if b1 then j6 q else undef
 |9=>if b1 then .pointer (some ⟨q,8,none⟩) else undef
 |10=>if b1 then .slice np ln nc else undef
 |11=>if b1 then .slice (some ⟨nb,0,none⟩) 4 4 else undef
 |12=>if b1 then .bool b else undef
 |13=>.bool b
 |14=>.bool b
 |15=>if b then j6 q else undef
 |16=>if b then j6 q else undef
 |17=>if b then .pointer (some ⟨q,5,none⟩) else undef
 |18=>if b then .int .i64 lo else undef
 |19=>if b then j6 q else undef
 |20=>if b then j6 q else undef
 |21=>if b then .pointer (some ⟨q,6,none⟩) else undef
 |22=>if b then .int .i64 hi else undef
 |23=>if b then .bool cr else undef
 |24=>.bool cr
 |25=>.bool cr
 |_=>undef
theorem vm{n:Nat}{W X:World}{R:World->Prop}{l:Array Bool}(h:Reg.OneC n W (fun X=>Below W.heap.size W X/\R X) l X):Below W.heap.size W X:=by
 cases e:l.getD n false with
 |false=>rw [h.ahead e];exact Below.refl _ _
 |true=>exact(h.done e).1
theorem yu{w:World}{g:Nat}{ks:List Int}{ty:TypeId}(h:w.heap[g]? =some (.cells (ks.map (Value.int .i64)).toArray ty))(cap:Nat):NumsAt w (.slice (some ⟨g,0,none⟩) ks.length cap) ks:=
 ⟨_,cap,rfl,fun i x hx=>⟨g,rfl,jS h,by rw [jC h,List.getElem?_toArray,List.getElem?_map,hx];rfl⟩⟩
def yf:Nat->List (Nat×Nat)
 |0=> [(0,0)]
 |1=> [(104,1)]
 |2=> [(105,2)]
 |13=> [(110,7)]
 |14=> [(117,14)]
 |24=> [(118,15)]
 |25=> [(128,25)]
 |_=> []
def yg:Nat->List (Nat×Nat)
 |0=> [(0,0)]
 |1=> [(104,1)]
 |2=> [(105,2)]
 |13=> [(110,7),(116,13)]
 |14=> [(117,14)]
 |24=> [(118,15)]
 |25=> [(128,25)]
 |_=> []
def yh:Nat->List (Nat×Nat)
 |0=> [(0,0)]
 |1=> [(104,1)]
 |2=> [(105,2)]
 |13=> [(110,7),(116,13)]
 |14=> [(117,14)]
 |24=> [(118,15),(127,24)]
 |25=> [(128,25)]
 |_=> []
theorem Yz(A:Nat->Prop)(u:Tr)(q:Nat)(w:World)(hu:jJ w A u (j6 q))(hl:(kM u).length<=1099511627776):
  Calls Tryz.prog 98 #[j6 q] w fun e w'=>e=.returned (.bool (J4 u))/\Below w.heap.size w w':=by
 obtain⟨k,s,lo,hi,z,a,b,l⟩:=u;obtain⟨q',np,nc,e,_,hq,hk⟩:=hu.head;injection e with e;injection e with e;injection e with e;subst e;have hl:l.length<=1099511627776:=hl;have hql:=jS hq;have n0:=jC hq 0;have n1:=jC hq 1;have n2:=jC hq 2;have n3:=jC hq 3;have n4:=jC hq 4;have n5:=jC hq 5;have n6:=jC hq 6;have n7:=jC hq 7;have n8:=jC hq 8;simp only [Reg.la,Reg.lb,Reg.lc] at n0 n1 n2 n3 n4 n5 n6 n7 n8
 have HWO:=j0 (fun W v ks (hW:Below w.heap.size w W) (hv:NumsAt W v ks) (hn:ks.length<=1099511627776)=>UV A np l nc v ks W hl (fun i t hi=>by
  obtain⟨c,u,h1,h2,h3,h4⟩:=hk i t hi;obtain⟨c',rfl⟩:=h4.pointer
  exact⟨c,c',h1,Nat.lt_of_lt_of_le h2 hW.size,(World.cell?_of_block (w:=w) (a:=⟨c,i,none⟩) (hW.block c h2)).trans h3,h4.up hW⟩) hv hn)
 have HR:Hid (J4 (.mk k s lo hi z a b l)=(!soundS k s && (!soundN k lo hi z && soundK k lo hi l))):=j0 rfl;generalize J4 (.mk k s lo hi z a b l)=res at*;have HS1:Hid (soundS k s=(!decide (k=1) && !Kz s)):=j0 rfl;have HN1:Hid (soundN k lo hi z=(!decide (k=6) && (!decide (lo=0)||(!decide (hi=0)||z)))):=j0 rfl;have HK1:Hid (soundK k lo hi l=soundK k lo hi l):=j0 rfl;have HNS:Hid ((s.a==0 && s.b==0 && s.c==0 && s.d==0)=Kz s):=j0 rfl;generalize soundS k s=b1 at*;generalize soundN k lo hi z=b2 at*;obtain⟨e0,he0⟩:∃e0,e0=Kz s:=⟨_,rfl⟩;rw [<-he0] at HS1 HNS;clear hu hq hk he0
 go_enter Tryz.func98,Tryz.ntmps98
 go_upto_region 1 with fail
 go_cut [15] (fun v wx=>v=.bool b1/\wx=w)
 case first=>
  by_cases h1:k=1
  ·have hb:b1=false:=by rw [HS1.out,jT h1];rfl
   subst hb h1
   go_wp2_with fail
   go_meet
   exact⟨rfl,rfl⟩
  ·have hk1:(k==1)=false:=by simpa using h1
   have hk2:(k !=1)=true:=by simpa using h1
   have HB:Hid (b1= !e0):=j0 (by rw [HS1.out,jF h1];rfl);have hns:=HNS.out;clear h1
   go_wp2_with fail
   go_meet
   exact⟨by rw [HB.out]<;>rfl,rfl⟩
 case rest=>
  obtain⟨rfl,hwc⟩:=hcut;obtain rfl:w=wc:=hwc.symm
  cases b1 with
  |true=>
   have HRF:Hid (res=false):=j0 (by rw [HR.out];rfl)
   go_wp2_with fail
   exact bodyPost_ret (v:=.bool false) (by simp [results,Tryz.results98,go_sem]) rfl ⟨by rw [HRF.out],Below.refl _ _⟩
  |false=>
   clear HS1 HNS n1 n2 n3 n4
   go_upto_region 3 with fail
   go_cut [40] (fun v wx=>v=.bool b2/\wx=w)
   case first=>
    by_cases h6:k=6
    ·have hb:b2=false:=by rw [HN1.out,jT h6];rfl
     subst hb h6
     go_wp2_with fail
     go_meet
     exact⟨rfl,rfl⟩
    ·have hk1:(k==6)=false:=by simpa using h6
     have hk2:(k !=6)=true:=by simpa using h6
     have HB:Hid (b2=(!decide (lo=0)||(!decide (hi=0)||z))):=j0 (by rw [HN1.out,jF h6];rfl);clear h6
     by_cases h0:lo=0
     ·subst h0
      by_cases h2:hi=0
      ·subst h2;have HB2:Hid (b2=z):=j0 (by rw [HB.out];simp);clear HB
       go_wp2_with fail
       go_meet
       exact⟨by rw [HB2.out]<;>rfl,rfl⟩
      ·have hh:(hi !=0)=true:=by simpa using h2
       have HB2:Hid (b2=true):=j0 (by rw [HB.out,jF h2];simp);clear h2 HB
       go_wp2_with fail
       go_meet
       exact⟨by rw [HB2.out]<;>rfl,rfl⟩
     ·have hh:(lo !=0)=true:=by simpa using h0
      have HB2:Hid (b2=true):=j0 (by rw [HB.out,jF h0];simp);clear h0 HB
      go_wp2_with fail
      go_meet
      exact⟨by rw [HB2.out]<;>rfl,rfl⟩
   case rest=>
    obtain⟨rfl,hwc⟩:=hcut;obtain rfl:w=wc:=hwc.symm
    cases b2 with
    |true=>
     have HRF:Hid (res=false):=j0 (by rw [HR.out];rfl)
     go_wp2_with fail
     exact bodyPost_ret (v:=.bool false) (by simp [results,Tryz.results98,go_sem]) rfl ⟨by rw [HRF.out],Below.refl _ _⟩
    |false=>
     have HR:Hid (res=soundK k lo hi l):=j0 (by rw [HR.out];rfl);clear HN1
     by_cases h0:k=0
     ·subst h0;have HF:Hid (res=decide (l.length=0)):=j0 (by rw [HR.out];rfl);clear HR HWO
      by_cases hl0:l.length=0
      ·rw [jT hl0] at HF;have hl1:((l.length:Int)==0)=true:=by simp [hl0]
       go_wp2_with fail
       exact bodyPost_ret (v:=.bool true) (by simp [results,Tryz.results98,go_sem]) rfl ⟨by rw [HF.out],Below.refl _ _⟩
      ·rw [jF hl0] at HF;have hl1:((l.length:Int)==0)=false:=by rw [beq_eq_false_iff_ne];omega
       clear hl0
       go_wp2_with fail
       exact bodyPost_ret (v:=.bool false) (by simp [results,Tryz.results98,go_sem]) rfl ⟨by rw [HF.out],Below.refl _ _⟩
     by_cases h1:k=1
     ·subst h1;have HF:Hid (res=decide (l.length=0)):=j0 (by rw [HR.out];rfl);clear HR HWO
      by_cases hl0:l.length=0
      ·rw [jT hl0] at HF;have hl1:((l.length:Int)==0)=true:=by simp [hl0]
       go_wp2_with fail
       exact bodyPost_ret (v:=.bool true) (by simp [results,Tryz.results98,go_sem]) rfl ⟨by rw [HF.out],Below.refl _ _⟩
      ·rw [jF hl0] at HF;have hl1:((l.length:Int)==0)=false:=by rw [beq_eq_false_iff_ne];omega
       clear hl0
       go_wp2_with fail
       exact bodyPost_ret (v:=.bool false) (by simp [results,Tryz.results98,go_sem]) rfl ⟨by rw [HF.out],Below.refl _ _⟩
     by_cases h2:k=2
     ·subst h2;have HF:Hid (res=(decide (l.length=1) && kf l [])):=j0 (by rw [HR.out];rfl);clear HR
      by_cases hl0:l.length=1
      ·rw [jT hl0] at HF;have hl1:((l.length:Int)==1)=true:=by simp [hl0]
       have CW:=j0 (HWO.out w (.slice none 0 0) [] (Below.refl _ _) (Jq w) (by simp));clear HWO hl0;generalize kf l []=b at*
       go_wp2_with fail
       refine CW.out.mono ?_;rintro e w1 ⟨rfl,hw⟩;have HW:=j0 hw;clear hw CW
       go_wp2_with fail
       exact bodyPost_ret (v:=.bool b) (by simp [results,Tryz.results98,go_sem]) rfl ⟨by rw [HF.out];simp,HW.out⟩
      ·rw [jF hl0] at HF;have hl1:((l.length:Int)==1)=false:=by simp;omega
       clear hl0 HWO
       go_wp2_with fail
       exact bodyPost_ret (v:=.bool false) (by simp [results,Tryz.results98,go_sem]) rfl ⟨by rw [HF.out];rfl,Below.refl _ _⟩
     by_cases h3:k=3
     ·subst h3;have HF:Hid (res=(decide (l.length=1) && kf l [])):=j0 (by rw [HR.out];rfl);clear HR
      by_cases hl0:l.length=1
      ·rw [jT hl0] at HF;have hl1:((l.length:Int)==1)=true:=by simp [hl0]
       have CW:=j0 (HWO.out w (.slice none 0 0) [] (Below.refl _ _) (Jq w) (by simp));clear HWO hl0;generalize kf l []=b at*
       go_wp2_with fail
       refine CW.out.mono ?_;rintro e w1 ⟨rfl,hw⟩;have HW:=j0 hw;clear hw CW
       go_wp2_with fail
       exact bodyPost_ret (v:=.bool b) (by simp [results,Tryz.results98,go_sem]) rfl ⟨by rw [HF.out];simp,HW.out⟩
      ·rw [jF hl0] at HF;have hl1:((l.length:Int)==1)=false:=by simp;omega
       clear hl0 HWO
       go_wp2_with fail
       exact bodyPost_ret (v:=.bool false) (by simp [results,Tryz.results98,go_sem]) rfl ⟨by rw [HF.out];rfl,Below.refl _ _⟩
     by_cases h4:k=4
     ·subst h4;have HF:Hid (res=(decide (1<l.length) && kf l [0,4,5])):=j0 (by rw [HR.out];rfl);clear HR
      by_cases hl0:1<l.length
      ·rw [jT hl0] at HF;have hl1:(1:Int)<(l.length:Int):=by omega
       obtain⟨W,hW⟩:∃X,X=w.alloc (.cells #[.int .i64 0,.int .i64 4,.int .i64 5] 3):=⟨_,rfl⟩;have hbW:Below w.heap.size w W:=by rw [hW];exact j3 _ _
       have CW:=j0 (HWO.out W (.slice (some ⟨w.heap.size,0,none⟩) 3 3) [0,4,5] hbW (yu (ks:= [0,4,5]) (ty:=3) (by rw [hW];exact j1 _ _) 3) (by simp));have HBW:=j0 hbW;have HWE:=j0 hW;clear HWO hbW hW;generalize kf l [0,4,5]=b at*
       go_wp2_with fail
       rw [<-HWE.out];clear HWE;refine CW.out.mono ?_;rintro e w1 ⟨rfl,hw⟩;have HW:=j0 (HBW.out.trans (hw.mono HBW.out.size));clear hw CW HBW
       go_wp2_with fail
       exact bodyPost_ret (v:=.bool b) (by simp [results,Tryz.results98,go_sem]) rfl ⟨by rw [HF.out];simp,HW.out⟩
      ·rw [jF hl0] at HF;have hl1:¬(1:Int)<(l.length:Int):=by omega
       clear HWO
       go_wp2_with fail
       exact bodyPost_ret (v:=.bool false) (by simp [results,Tryz.results98,go_sem]) rfl ⟨by rw [HF.out];rfl,Below.refl _ _⟩
     by_cases h5:k=5
     ·subst h5;have HF:Hid (res=(decide (1<l.length) && kf l [5])):=j0 (by rw [HR.out];rfl);clear HR
      by_cases hl0:1<l.length
      ·rw [jT hl0] at HF;have hl1:(1:Int)<(l.length:Int):=by omega
       obtain⟨W,hW⟩:∃X,X=w.alloc (.cells #[.int .i64 5] 3):=⟨_,rfl⟩;have hbW:Below w.heap.size w W:=by rw [hW];exact j3 _ _
       have CW:=j0 (HWO.out W (.slice (some ⟨w.heap.size,0,none⟩) 1 1) [5] hbW (yu (ks:= [5]) (ty:=3) (by rw [hW];exact j1 _ _) 1) (by simp));have HBW:=j0 hbW;have HWE:=j0 hW;clear HWO hbW hW;generalize kf l [5]=b at*
       go_wp2_with fail
       rw [<-HWE.out];clear HWE;refine CW.out.mono ?_;rintro e w1 ⟨rfl,hw⟩;have HW:=j0 (HBW.out.trans (hw.mono HBW.out.size));clear hw CW HBW
       go_wp2_with fail
       exact bodyPost_ret (v:=.bool b) (by simp [results,Tryz.results98,go_sem]) rfl ⟨by rw [HF.out];simp,HW.out⟩
      ·rw [jF hl0] at HF;have hl1:¬(1:Int)<(l.length:Int):=by omega
       clear HWO
       go_wp2_with fail
       exact bodyPost_ret (v:=.bool false) (by simp [results,Tryz.results98,go_sem]) rfl ⟨by rw [HF.out];rfl,Below.refl _ _⟩
     by_cases h6:k=6
     ·subst h6;have HF:Hid (res=(decide (l.length=1) && (kf l [0,4,5,6] && kS lo hi))):=j0 (by rw [HR.out];rfl);clear HR;have N5:Hid (w.drew.cell? ⟨q,5,none⟩=some (.int .i64 lo)):=j0 n5;have N6:Hid (w.drew.cell? ⟨q,6,none⟩=some (.int .i64 hi)):=j0 n6;have N8:Hid (w.drew.cell? ⟨q,8,none⟩=some (.slice np l.length nc)):=j0 n8;obtain⟨cr,hcr⟩:∃cr,cr=kS lo hi:=⟨_,rfl⟩;rw [<-hcr] at HF;have HC:=j0 hcr.symm;obtain⟨bw,hbw⟩:∃bw,bw=kf l [0,4,5,6]:=⟨_,rfl⟩;rw [<-hbw] at HF;have HB:=j0 hbw.symm;clear hcr hbw
      go_wp2_with fail
      obtain⟨W,hW⟩:∃X,X=w.drew:=⟨_,rfl⟩;rw [<-hW] at N5 N6 N8;have HBW:Hid (Below w.heap.size w W):=j0 (by rw [hW];exact(Below.refl _ _).drew);have hqW:q<W.heap.size:=by rw [hW];exact hql
      have HW:Hid (w.drew=W):=j0 hW.symm;obtain⟨nb,hnb⟩:∃b,b=W.heap.size:=⟨_,rfl⟩;have HNB:=j0 hnb.symm;clear hW hnb n0 n5 n6 n7 n8
      by_cases hl0:l.length=1
      ·rw [jT hl0] at HF;have HL1:Hid (((l.length:Int)==1)=true):=j0 (by simp [hl0]);clear hl0
       cases bw with
       |true=>
        have HF:Hid (res=cr):=j0 (by rw [HF.out];simp);refine Reg.wp_region_S (jx q np l.length nc nb lo hi true true cr) (Reg.OneC 11 W (fun X=>Below W.heap.size W X/\X.heap[nb]? =some (.cells #[.int .i64 0,.int .i64 4,.int .i64 5,.int .i64 6] 3))) [0,1,2,3,4,5,6,7,8,9,10,11,12,13,14,15,16,17,18,19,20,21,22,23,24,25] (by rfl) (by kernel_rfl) (by kernel_rfl) ?_ ?_ ?_
        ·rw [HW.out];exact Reg.OneC.start _ _ _ _
        ·iterate 3
          refine Reg.oS (fun listed A X hI hin hun hall HS=> ?_) ?_
          ·have E:=hI.tf hun hall yh;simp only [Reg.TF,yh,jx,Reg.la,Reg.lb] at E;clear hI hall
           go_simp
           first|rfl|exact⟨rfl,HS.up (by decide)⟩|(refine⟨?_,HS.up (by decide)⟩;simp [jx];done)
         refine Reg.oS (fun listed A X hI hin hun hall HS=> ?_) ?_
         ·have e106:A.tmps[106]? =some (.pointer (some ⟨q,8,none⟩)):=hI.v hall 2 106;have k8:=(World.cell?_of_block (w:=W) (a:=⟨q,8,none⟩) ((vm HS).block q hqW)).trans N8.out;clear hI hall
          go_simp
          first|rfl|exact⟨rfl,HS.up (by decide)⟩|(refine⟨?_,HS.up (by decide)⟩;simp [jx];done)
         refine Reg.oS (fun listed A X hI hin hun hall HS=> ?_) ?_
         ·have e107:A.tmps[107]? =some (.slice np l.length nc):=hI.v hall 3 107;clear hI hall
          go_simp
          first|rfl|exact⟨rfl,HS.up (by decide)⟩|(refine⟨?_,HS.up (by decide)⟩;simp [jx];done)
         refine Reg.oS (fun listed A X hI hin hun hall HS=> ?_) ?_
         ·have e108:A.tmps[108]? =some (.int .i64 (l.length:Int)):=hI.v hall 4 108;have hl1:=HL1.out;clear hI hall
          go_simp
          first|rfl|exact⟨rfl,HS.up (by decide)⟩|(refine⟨?_,HS.up (by decide)⟩;simp [jx];done)
         refine Reg.oS (fun listed A X hI hin hun hall HS=> ?_) ?_
         ·have e109:A.tmps[109]? =some (.bool true):=hI.v hall 5 109;clear hI hall
          go_simp
          first|rfl|exact⟨rfl,HS.up (by decide)⟩|(refine⟨?_,HS.up (by decide)⟩;simp [jx];done)
         refine⟨fun listed A X hI hin hun hall=>.inl ⟨(Reg.ws hI hall 6 110 true).trans rfl,?_⟩,?_⟩
         ·have e0:=hI.wo 0 rfl;have HS:=hI.st;clear hI hall;unfold Reg.Yields
          go_simp
          first|rfl|exact⟨rfl,HS.up (by decide)⟩|(refine⟨?_,HS.up (by decide)⟩;simp [jx];done)
         refine⟨fun listed A X hI hin hun hall=>.inl ⟨(Reg.ws hI hall 6 110 true).trans rfl,?_⟩,?_⟩
         ·have e111:A.tmps[111]? =some (j6 q):=hI.v hall 7 111;have HS:=hI.st;clear hI hall;unfold Reg.Yields
          go_simp
          first|rfl|exact⟨rfl,HS.up (by decide)⟩|(refine⟨?_,HS.up (by decide)⟩;simp [jx];done)
         refine⟨fun listed A X hI hin hun hall=>.inl ⟨(Reg.ws hI hall 6 110 true).trans rfl,?_⟩,?_⟩
         ·have e112:A.tmps[112]? =some (j6 q):=hI.v hall 8 112;have HS:=hI.st;clear hI hall;unfold Reg.Yields
          go_simp
          first|rfl|exact⟨rfl,HS.up (by decide)⟩|(refine⟨?_,HS.up (by decide)⟩;simp [jx];done)
         refine⟨fun listed A X hI hin hun hall=>.inl ⟨(Reg.ws hI hall 6 110 true).trans rfl,?_⟩,?_⟩
         ·have e113:A.tmps[113]? =some (.pointer (some ⟨q,8,none⟩)):=hI.v hall 9 113;have HS:=hI.st;have k8:=(World.cell?_of_block (w:=W) (a:=⟨q,8,none⟩) ((vm HS).block q hqW)).trans N8.out;clear hI hall;unfold Reg.Yields
          go_simp
          first|rfl|exact⟨rfl,HS.up (by decide)⟩|(refine⟨?_,HS.up (by decide)⟩;simp [jx];done)
         refine⟨fun listed A X hI hin hun hall=>.inl ⟨(Reg.ws hI hall 6 110 true).trans rfl,?_⟩,?_⟩
         ·have HS:=hI.st;have hn11:listed.getD 11 false=false:=by simpa using hun
          have hX:=(HS.ahead hn11).symm;subst hX;clear hI hall;unfold Reg.Yields
          go_simp
          exact⟨by rw [HNB.out];rfl,Reg.OneC.put hin ⟨j3 _ _,by rw [<-HNB.out];exact j1 _ _⟩⟩
         refine⟨fun listed A X hI hin hun hall=>.inl ⟨(Reg.ws hI hall 6 110 true).trans rfl,?_⟩,?_⟩
         ·have e114:A.tmps[114]? =some (.slice np l.length nc):=hI.v hall 10 114;have e115:A.tmps[115]? =some (.slice (some ⟨nb,0,none⟩) 4 4):=hI.v hall 11 115;have h11:listed.getD 11 false=true:=hall ⟨11,.data⟩ (by simp) rfl;have HS:=hI.st;have hR:=HS.done h11;have CW:=HWO.out X (.slice (some ⟨nb,0,none⟩) 4 4) [0,4,5,6] (HBW.out.trans (hR.1.mono HBW.out.size)) (yu (ks:= [0,4,5,6]) (ty:=3) hR.2 4) (by simp);clear hI hall;unfold Reg.Yields
          go_simp
          exact CW.mono fun e w'' ⟨he,hb⟩=>⟨_,he,by rw [HB.out];rfl,⟨fun e=>(by rw [getD_set_ne false (by decide),h11] at e;cases e),fun _=>⟨hR.1.trans (hb.mono hR.1.size),(hb.block _ (jS hR.2)).trans hR.2⟩⟩⟩
         iterate 2
          refine Reg.oS (fun listed A X hI hin hun hall HS=> ?_) ?_
          ·have E:=hI.tf hun hall yh;simp only [Reg.TF,yh,jx] at E;clear hI hall
           go_simp
           first|rfl|exact⟨rfl,HS.up (by decide)⟩|(refine⟨?_,HS.up (by decide)⟩;simp [jx];done)
         refine⟨fun listed A X hI hin hun hall=>.inl ⟨(Reg.ws hI hall 14 118 true).trans rfl,?_⟩,?_⟩
         ·have e0:=hI.wo 0 rfl;have HS:=hI.st;clear hI hall;unfold Reg.Yields
          go_simp
          first|rfl|exact⟨rfl,HS.up (by decide)⟩|(refine⟨?_,HS.up (by decide)⟩;simp [jx];done)
         refine⟨fun listed A X hI hin hun hall=>.inl ⟨(Reg.ws hI hall 14 118 true).trans rfl,?_⟩,?_⟩
         ·have e119:A.tmps[119]? =some (j6 q):=hI.v hall 15 119;have HS:=hI.st;clear hI hall;unfold Reg.Yields
          go_simp
          first|rfl|exact⟨rfl,HS.up (by decide)⟩|(refine⟨?_,HS.up (by decide)⟩;simp [jx];done)
         refine⟨fun listed A X hI hin hun hall=>.inl ⟨(Reg.ws hI hall 14 118 true).trans rfl,?_⟩,?_⟩
         ·have e120:A.tmps[120]? =some (j6 q):=hI.v hall 16 120;have HS:=hI.st;clear hI hall;unfold Reg.Yields
          go_simp
          first|rfl|exact⟨rfl,HS.up (by decide)⟩|(refine⟨?_,HS.up (by decide)⟩;simp [jx];done)
         refine⟨fun listed A X hI hin hun hall=>.inl ⟨(Reg.ws hI hall 14 118 true).trans rfl,?_⟩,?_⟩
         ·have e121:A.tmps[121]? =some (.pointer (some ⟨q,5,none⟩)):=hI.v hall 17 121;have HS:=hI.st;have k5:=(World.cell?_of_block (w:=W) (a:=⟨q,5,none⟩) ((vm HS).block q hqW)).trans N5.out;clear hI hall;unfold Reg.Yields
          go_simp
          first|rfl|exact⟨rfl,HS.up (by decide)⟩|(refine⟨?_,HS.up (by decide)⟩;simp [jx];done)
         refine⟨fun listed A X hI hin hun hall=>.inl ⟨(Reg.ws hI hall 14 118 true).trans rfl,?_⟩,?_⟩
         ·have e0:=hI.wo 0 rfl;have HS:=hI.st;clear hI hall;unfold Reg.Yields
          go_simp
          first|rfl|exact⟨rfl,HS.up (by decide)⟩|(refine⟨?_,HS.up (by decide)⟩;simp [jx];done)
         refine⟨fun listed A X hI hin hun hall=>.inl ⟨(Reg.ws hI hall 14 118 true).trans rfl,?_⟩,?_⟩
         ·have e123:A.tmps[123]? =some (j6 q):=hI.v hall 19 123;have HS:=hI.st;clear hI hall;unfold Reg.Yields
          go_simp
          first|rfl|exact⟨rfl,HS.up (by decide)⟩|(refine⟨?_,HS.up (by decide)⟩;simp [jx];done)
         refine⟨fun listed A X hI hin hun hall=>.inl ⟨(Reg.ws hI hall 14 118 true).trans rfl,?_⟩,?_⟩
         ·have e124:A.tmps[124]? =some (j6 q):=hI.v hall 20 124;have HS:=hI.st;clear hI hall;unfold Reg.Yields
          go_simp
          first|rfl|exact⟨rfl,HS.up (by decide)⟩|(refine⟨?_,HS.up (by decide)⟩;simp [jx];done)
         refine⟨fun listed A X hI hin hun hall=>.inl ⟨(Reg.ws hI hall 14 118 true).trans rfl,?_⟩,?_⟩
         ·have e125:A.tmps[125]? =some (.pointer (some ⟨q,6,none⟩)):=hI.v hall 21 125;have HS:=hI.st;have k6:=(World.cell?_of_block (w:=W) (a:=⟨q,6,none⟩) ((vm HS).block q hqW)).trans N6.out;clear hI hall;unfold Reg.Yields
          go_simp
          first|rfl|exact⟨rfl,HS.up (by decide)⟩|(refine⟨?_,HS.up (by decide)⟩;simp [jx];done)
         refine⟨fun listed A X hI hin hun hall=>.inl ⟨(Reg.ws hI hall 14 118 true).trans rfl,?_⟩,?_⟩
         ·have e122:A.tmps[122]? =some (.int .i64 lo):=hI.v hall 18 122;have e126:A.tmps[126]? =some (.int .i64 hi):=hI.v hall 22 126;have HS:=hI.st;have CT:=UZ lo hi X;clear hI hall;unfold Reg.Yields
          go_simp
          exact CT.mono fun e w'' ⟨he,hw⟩=>⟨_,he,by rw [HC.out];rfl,by rw [hw];exact HS.up (by decide)⟩
         iterate 2
          refine Reg.oS (fun listed A X hI hin hun hall HS=> ?_) ?_
          ·have E:=hI.tf hun hall yh;simp only [Reg.TF,yh,jx] at E;clear hI hall
           go_simp
           first|rfl|exact⟨rfl,HS.up (by decide)⟩|(refine⟨?_,HS.up (by decide)⟩;simp [jx];done)
         trivial
        ·intro W9 hS;have HB9:Hid (Below w.heap.size w W9):=j0 (HBW.out.trans ((hS.done (by rfl)).1.mono HBW.out.size));clear hS;simp [Reg.finalTmps,Reg.dstAt,Reg.valOf,jx]
         go_wp2_with fail
         exact bodyPost_ret (v:=.bool cr) (by simp [results,Tryz.results98,go_sem]) rfl ⟨by rw [HF.out],HB9.out⟩
       |false=>
        have HF:Hid (res=false):=j0 (by rw [HF.out];rfl);refine Reg.wp_region_S (jx q np l.length nc nb lo hi true false false) (Reg.OneC 11 W (fun X=>Below W.heap.size W X/\X.heap[nb]? =some (.cells #[.int .i64 0,.int .i64 4,.int .i64 5,.int .i64 6] 3))) [0,1,2,3,4,5,6,7,8,9,10,11,12,13,14,15,16,17,18,19,20,21,22,23,24,25] (by rfl) (by kernel_rfl) (by kernel_rfl) ?_ ?_ ?_
        ·rw [HW.out];exact Reg.OneC.start _ _ _ _
        ·iterate 3
          refine Reg.oS (fun listed A X hI hin hun hall HS=> ?_) ?_
          ·have E:=hI.tf hun hall yg;simp only [Reg.TF,yg,jx,Reg.la,Reg.lb] at E;clear hI hall
           go_simp
           first|rfl|exact⟨rfl,HS.up (by decide)⟩|(refine⟨?_,HS.up (by decide)⟩;simp [jx];done)
         refine Reg.oS (fun listed A X hI hin hun hall HS=> ?_) ?_
         ·have e106:A.tmps[106]? =some (.pointer (some ⟨q,8,none⟩)):=hI.v hall 2 106;have k8:=(World.cell?_of_block (w:=W) (a:=⟨q,8,none⟩) ((vm HS).block q hqW)).trans N8.out;clear hI hall
          go_simp
          first|rfl|exact⟨rfl,HS.up (by decide)⟩|(refine⟨?_,HS.up (by decide)⟩;simp [jx];done)
         refine Reg.oS (fun listed A X hI hin hun hall HS=> ?_) ?_
         ·have e107:A.tmps[107]? =some (.slice np l.length nc):=hI.v hall 3 107;clear hI hall
          go_simp
          first|rfl|exact⟨rfl,HS.up (by decide)⟩|(refine⟨?_,HS.up (by decide)⟩;simp [jx];done)
         refine Reg.oS (fun listed A X hI hin hun hall HS=> ?_) ?_
         ·have e108:A.tmps[108]? =some (.int .i64 (l.length:Int)):=hI.v hall 4 108;have hl1:=HL1.out;clear hI hall
          go_simp
          first|rfl|exact⟨rfl,HS.up (by decide)⟩|(refine⟨?_,HS.up (by decide)⟩;simp [jx];done)
         refine Reg.oS (fun listed A X hI hin hun hall HS=> ?_) ?_
         ·have e109:A.tmps[109]? =some (.bool true):=hI.v hall 5 109;clear hI hall
          go_simp
          first|rfl|exact⟨rfl,HS.up (by decide)⟩|(refine⟨?_,HS.up (by decide)⟩;simp [jx];done)
         refine⟨fun listed A X hI hin hun hall=>.inl ⟨(Reg.ws hI hall 6 110 true).trans rfl,?_⟩,?_⟩
         ·have e0:=hI.wo 0 rfl;have HS:=hI.st;clear hI hall;unfold Reg.Yields
          go_simp
          first|rfl|exact⟨rfl,HS.up (by decide)⟩|(refine⟨?_,HS.up (by decide)⟩;simp [jx];done)
         refine⟨fun listed A X hI hin hun hall=>.inl ⟨(Reg.ws hI hall 6 110 true).trans rfl,?_⟩,?_⟩
         ·have e111:A.tmps[111]? =some (j6 q):=hI.v hall 7 111;have HS:=hI.st;clear hI hall;unfold Reg.Yields
          go_simp
          first|rfl|exact⟨rfl,HS.up (by decide)⟩|(refine⟨?_,HS.up (by decide)⟩;simp [jx];done)
         refine⟨fun listed A X hI hin hun hall=>.inl ⟨(Reg.ws hI hall 6 110 true).trans rfl,?_⟩,?_⟩
         ·have e112:A.tmps[112]? =some (j6 q):=hI.v hall 8 112;have HS:=hI.st;clear hI hall;unfold Reg.Yields
          go_simp
          first|rfl|exact⟨rfl,HS.up (by decide)⟩|(refine⟨?_,HS.up (by decide)⟩;simp [jx];done)
         refine⟨fun listed A X hI hin hun hall=>.inl ⟨(Reg.ws hI hall 6 110 true).trans rfl,?_⟩,?_⟩
         ·have e113:A.tmps[113]? =some (.pointer (some ⟨q,8,none⟩)):=hI.v hall 9 113;have HS:=hI.st;have k8:=(World.cell?_of_block (w:=W) (a:=⟨q,8,none⟩) ((vm HS).block q hqW)).trans N8.out;clear hI hall;unfold Reg.Yields
          go_simp
          first|rfl|exact⟨rfl,HS.up (by decide)⟩|(refine⟨?_,HS.up (by decide)⟩;simp [jx];done)
         refine⟨fun listed A X hI hin hun hall=>.inl ⟨(Reg.ws hI hall 6 110 true).trans rfl,?_⟩,?_⟩
         ·have HS:=hI.st;have hn11:listed.getD 11 false=false:=by simpa using hun
          have hX:=(HS.ahead hn11).symm;subst hX;clear hI hall;unfold Reg.Yields
          go_simp
          exact⟨by rw [HNB.out];rfl,Reg.OneC.put hin ⟨j3 _ _,by rw [<-HNB.out];exact j1 _ _⟩⟩
         refine⟨fun listed A X hI hin hun hall=>.inl ⟨(Reg.ws hI hall 6 110 true).trans rfl,?_⟩,?_⟩
         ·have e114:A.tmps[114]? =some (.slice np l.length nc):=hI.v hall 10 114;have e115:A.tmps[115]? =some (.slice (some ⟨nb,0,none⟩) 4 4):=hI.v hall 11 115;have h11:listed.getD 11 false=true:=hall ⟨11,.data⟩ (by simp) rfl;have HS:=hI.st;have hR:=HS.done h11;have CW:=HWO.out X (.slice (some ⟨nb,0,none⟩) 4 4) [0,4,5,6] (HBW.out.trans (hR.1.mono HBW.out.size)) (yu (ks:= [0,4,5,6]) (ty:=3) hR.2 4) (by simp);clear hI hall;unfold Reg.Yields
          go_simp
          exact CW.mono fun e w'' ⟨he,hb⟩=>⟨_,he,by rw [HB.out];rfl,⟨fun e=>(by rw [getD_set_ne false (by decide),h11] at e;cases e),fun _=>⟨hR.1.trans (hb.mono hR.1.size),(hb.block _ (jS hR.2)).trans hR.2⟩⟩⟩
         iterate 2
          refine Reg.oS (fun listed A X hI hin hun hall HS=> ?_) ?_
          ·have E:=hI.tf hun hall yg;simp only [Reg.TF,yg,jx] at E;clear hI hall
           go_simp
           first|rfl|exact⟨rfl,HS.up (by decide)⟩|(refine⟨?_,HS.up (by decide)⟩;simp [jx];done)
         refine⟨fun listed A X hI hin hun hall=>.inr ⟨(Reg.ws hI hall 14 118 false).trans rfl,rfl,hI.st.up (by decide)⟩,?_⟩;refine⟨fun listed A X hI hin hun hall=>.inr ⟨(Reg.ws hI hall 14 118 false).trans rfl,rfl,hI.st.up (by decide)⟩,?_⟩;refine⟨fun listed A X hI hin hun hall=>.inr ⟨(Reg.ws hI hall 14 118 false).trans rfl,rfl,hI.st.up (by decide)⟩,?_⟩;refine⟨fun listed A X hI hin hun hall=>.inr ⟨(Reg.ws hI hall 14 118 false).trans rfl,rfl,hI.st.up (by decide)⟩,?_⟩;refine⟨fun listed A X hI hin hun hall=>.inr ⟨(Reg.ws hI hall 14 118 false).trans rfl,rfl,hI.st.up (by decide)⟩,?_⟩;refine⟨fun listed A X hI hin hun hall=>.inr ⟨(Reg.ws hI hall 14 118 false).trans rfl,rfl,hI.st.up (by decide)⟩,?_⟩;refine⟨fun listed A X hI hin hun hall=>.inr ⟨(Reg.ws hI hall 14 118 false).trans rfl,rfl,hI.st.up (by decide)⟩,?_⟩;refine⟨fun listed A X hI hin hun hall=>.inr ⟨(Reg.ws hI hall 14 118 false).trans rfl,rfl,hI.st.up (by decide)⟩,?_⟩;refine⟨fun listed A X hI hin hun hall=>.inr ⟨(Reg.ws hI hall 14 118 false).trans rfl,rfl,hI.st.up (by decide)⟩,?_⟩
         iterate 2
          refine Reg.oS (fun listed A X hI hin hun hall HS=> ?_) ?_
          ·have E:=hI.tf hun hall yg;simp only [Reg.TF,yg,jx] at E;clear hI hall
           go_simp
           first|rfl|exact⟨rfl,HS.up (by decide)⟩|(refine⟨?_,HS.up (by decide)⟩;simp [jx];done)
         trivial
        ·intro W9 hS;have HB9:Hid (Below w.heap.size w W9):=j0 (HBW.out.trans ((hS.done (by rfl)).1.mono HBW.out.size));clear hS;simp [Reg.finalTmps,Reg.dstAt,Reg.valOf,jx]
         go_wp2_with fail
         exact bodyPost_ret (v:=.bool false) (by simp [results,Tryz.results98,go_sem]) rfl ⟨by rw [HF.out],HB9.out⟩
      ·rw [jF hl0] at HF;have HL1:Hid (((l.length:Int)==1)=false):=j0 (by rw [beq_eq_false_iff_ne];omega);have HF:Hid (res=false):=j0 (by rw [HF.out];rfl);clear hl0 HWO;refine Reg.wp_region_S (jx q np l.length nc nb lo hi false false false) (fun _ X=>X=W) [0,1,2,3,4,5,6,7,8,9,10,11,12,13,14,15,16,17,18,19,20,21,22,23,24,25] (by rfl) (by kernel_rfl) (by kernel_rfl) ?_ ?_ ?_
       ·rw [HW.out]
       ·iterate 3
         refine Reg.oS (fun listed A X hI hin hun hall HS=> ?_) ?_
         ·have E:=hI.tf hun hall yf;simp only [Reg.TF,yf,jx,Reg.la,Reg.lb] at E;subst HS;clear hI hall
          go_simp
          first|rfl|exact⟨rfl,rfl⟩|(simp [jx];done)
        refine Reg.oS (fun listed A X hI hin hun hall HS=> ?_) ?_
        ·have e106:A.tmps[106]? =some (.pointer (some ⟨q,8,none⟩)):=hI.v hall 2 106;subst HS;have k8:=N8.out;clear hI hall
         go_simp
         first|rfl|exact⟨rfl,rfl⟩|(simp [jx];done)
        refine Reg.oS (fun listed A X hI hin hun hall HS=> ?_) ?_
        ·have e107:A.tmps[107]? =some (.slice np l.length nc):=hI.v hall 3 107;subst HS;clear hI hall
         go_simp
         first|rfl|exact⟨rfl,rfl⟩|(simp [jx];done)
        refine Reg.oS (fun listed A X hI hin hun hall HS=> ?_) ?_
        ·have e108:A.tmps[108]? =some (.int .i64 (l.length:Int)):=hI.v hall 4 108;subst HS;have hl1:=HL1.out;clear hI hall
         go_simp
         first|rfl|exact⟨rfl,rfl⟩|(simp [jx];done)
        refine Reg.oS (fun listed A X hI hin hun hall HS=> ?_) ?_
        ·have e109:A.tmps[109]? =some (.bool false):=hI.v hall 5 109;subst HS;clear hI hall
         go_simp
         first|rfl|exact⟨rfl,rfl⟩|(simp [jx];done)
        refine⟨fun listed A X hI hin hun hall=>.inr ⟨(Reg.ws hI hall 6 110 false).trans rfl,rfl,hI.st⟩,?_⟩;refine⟨fun listed A X hI hin hun hall=>.inr ⟨(Reg.ws hI hall 6 110 false).trans rfl,rfl,hI.st⟩,?_⟩;refine⟨fun listed A X hI hin hun hall=>.inr ⟨(Reg.ws hI hall 6 110 false).trans rfl,rfl,hI.st⟩,?_⟩;refine⟨fun listed A X hI hin hun hall=>.inr ⟨(Reg.ws hI hall 6 110 false).trans rfl,rfl,hI.st⟩,?_⟩;refine⟨fun listed A X hI hin hun hall=>.inr ⟨(Reg.ws hI hall 6 110 false).trans rfl,rfl,hI.st⟩,?_⟩;refine⟨fun listed A X hI hin hun hall=>.inr ⟨(Reg.ws hI hall 6 110 false).trans rfl,rfl,hI.st⟩,?_⟩
        iterate 2
         refine Reg.oS (fun listed A X hI hin hun hall HS=> ?_) ?_
         ·have E:=hI.tf hun hall yf;simp only [Reg.TF,yf,jx] at E;subst HS;clear hI hall
          go_simp
          first|rfl|exact⟨rfl,rfl⟩|(simp [jx];done)
        refine⟨fun listed A X hI hin hun hall=>.inr ⟨(Reg.ws hI hall 14 118 false).trans rfl,rfl,hI.st⟩,?_⟩;refine⟨fun listed A X hI hin hun hall=>.inr ⟨(Reg.ws hI hall 14 118 false).trans rfl,rfl,hI.st⟩,?_⟩;refine⟨fun listed A X hI hin hun hall=>.inr ⟨(Reg.ws hI hall 14 118 false).trans rfl,rfl,hI.st⟩,?_⟩;refine⟨fun listed A X hI hin hun hall=>.inr ⟨(Reg.ws hI hall 14 118 false).trans rfl,rfl,hI.st⟩,?_⟩;refine⟨fun listed A X hI hin hun hall=>.inr ⟨(Reg.ws hI hall 14 118 false).trans rfl,rfl,hI.st⟩,?_⟩;refine⟨fun listed A X hI hin hun hall=>.inr ⟨(Reg.ws hI hall 14 118 false).trans rfl,rfl,hI.st⟩,?_⟩;refine⟨fun listed A X hI hin hun hall=>.inr ⟨(Reg.ws hI hall 14 118 false).trans rfl,rfl,hI.st⟩,?_⟩;refine⟨fun listed A X hI hin hun hall=>.inr ⟨(Reg.ws hI hall 14 118 false).trans rfl,rfl,hI.st⟩,?_⟩;refine⟨fun listed A X hI hin hun hall=>.inr ⟨(Reg.ws hI hall 14 118 false).trans rfl,rfl,hI.st⟩,?_⟩
        iterate 2
         refine Reg.oS (fun listed A X hI hin hun hall HS=> ?_) ?_
         ·have E:=hI.tf hun hall yf;simp only [Reg.TF,yf,jx] at E;subst HS;clear hI hall
          go_simp
          first|rfl|exact⟨rfl,rfl⟩|(simp [jx];done)
        trivial
       ·intro W9 hS;have HB9:Hid (Below w.heap.size w W9):=j0 (by rw [hS];exact HBW.out);clear hS;simp [Reg.finalTmps,Reg.dstAt,Reg.valOf,jx]
        go_wp2_with fail
        exact bodyPost_ret (v:=.bool false) (by simp [results,Tryz.results98,go_sem]) rfl ⟨by rw [HF.out],HB9.out⟩
     ·have HF:Hid (res=false):=j0 (by rw [HR.out];unfold soundK;rw [if_neg (by omega),if_neg (by omega),if_neg h4,if_neg h5,if_neg h6]);have k0:(k==0)=false:=by simpa using h0
      have k1:(k==1)=false:=by simpa using h1
      have k2:(k==2)=false:=by simpa using h2
      have k3:(k==3)=false:=by simpa using h3
      have k4:(k==4)=false:=by simpa using h4
      have k5:(k==5)=false:=by simpa using h5
      have k6:(k==6)=false:=by simpa using h6
      clear h0 h1 h2 h3 h4 h5 h6 HR HWO
      go_wp2_with fail
      exact bodyPost_ret (v:=.bool false) (by simp [results,Tryz.results98,go_sem]) rfl ⟨by rw [HF.out],Below.refl _ _⟩
end
end Go.Proofs.YtnmalggmbeipaaaGreatDoor
