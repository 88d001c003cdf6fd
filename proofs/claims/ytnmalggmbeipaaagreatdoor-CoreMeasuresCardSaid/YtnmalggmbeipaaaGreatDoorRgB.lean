/- A part of the proof. -/
import Derived.Test.YtnmalggmbeipaaaGreatDoorRgN
import Derived.Test.YtnmalggmbeipaaaGreatDoorRgA
set_option maxRecDepth 100000
set_option maxHeartbeats 16000000
namespace Go.Proofs.YtnmalggmbeipaaaGreatDoor
section
open Go Go.RowKit
attribute [local go_sem ↓] Go.wp_at_zero Go.wp_at_succ
attribute [local go_sem] qX
def enR(L:jq)(i:Nat):Nat:=match L[i]? with
 |some x=>x.2.2
 |none=>0
theorem qK.get{w:World}{v:Value}{L:jq}(h:qK w v L){i:Nat}(hi:i<L.length)(size:Nat):
  ∃g cap,v=.slice (some ⟨g,0,none⟩) L.length cap/\g<w.heap.size/\w.cell? ⟨g,i*10,none⟩=some (.int .i64 (jR L i))/\w.cell? ⟨g,i*10+1,none⟩=some (.int .i64 (ki L size i:Int))/\w.cell? ⟨g,i*10+2,none⟩=some (.int .i64 (enR L i:Int))/\
   (w.cell? ⟨g,i*10+3,none⟩=some (.int .u64 (xv L i).set.a)/\w.cell? ⟨g,i*10+4,none⟩=some (.int .u64 (xv L i).set.b)/\w.cell? ⟨g,i*10+5,none⟩=some (.int .u64 (xv L i).set.c)/\w.cell? ⟨g,i*10+6,none⟩=some (.int .u64 (xv L i).set.d))/\
   w.cell? ⟨g,i*10+7,none⟩=some (.int .i64 (xv L i).lo)/\w.cell? ⟨g,i*10+8,none⟩=some (.int .i64 (xv L i).hi)/\w.cell? ⟨g,i*10+9,none⟩=some (.bool (xv L i).lazy):=by
 obtain⟨p,cap,hv,hc⟩:=h;obtain⟨x,hx⟩:∃x,L[i]? =some x:=⟨_,List.getElem?_eq_getElem hi⟩;obtain⟨g,hp,hg,hcell⟩:=hc i x hx;subst hp;have e1:jR L i=x.1.kind:=by unfold jR;rw [hx]
 have e2:ki L size i=x.2.1:=by unfold ki;rw [hx]
 have e3:enR L i=x.2.2:=by unfold enR;rw [hx]
 have e4:xv L i=x.1:=by unfold xv;rw [hx]
 rw [e1,e2,e3,e4];exact⟨g,cap,hv,hg,hcell 0 _ rfl,hcell 1 _ rfl,hcell 2 _ rfl,⟨hcell 3 _ rfl,hcell 4 _ rfl,hcell 5 _ rfl,hcell 6 _ rfl⟩,hcell 7 _ rfl,hcell 8 _ rfl,hcell 9 _ rfl⟩
theorem qK.slice{w:World}{v:Value}{L:jq}(h:qK w v L):∃p cap,v=.slice p L.length cap:=by
 obtain⟨p,cap,hv,_⟩:=h;exact⟨p,cap,hv⟩
def clI(o:Option Nat):Int:=match o with
 |some j=>(j:Int)
 |none=> -1
theorem YR{L:jq}{v:Value}(f:Nat)(hf:f<=L.length)(hlen:L.length<=1048576)(w:World)(h:qK w v L):
  Calls Tryz.prog 143 #[v,.int .i64 (f:Int)] w fun e w'=>e=.returned (.int .i64 (clI (cl L f 0)))/\w'=w:=by
 obtain⟨p,cap,rfl⟩:=h.slice;have HA:=j0 h;obtain⟨R,hR⟩:∃R,R=clI (cl L f 0):=⟨_,rfl⟩;rw [<-hR];have HR:=j0 hR;clear h hR
 go_enter Tryz.func143,Tryz.ntmps143
 go_wp2_with fail
 go_loopw [5,6] (fun dv iv wr=>∃i d:Nat,i<=L.length/\d<=i/\dv=.int .i64 d/\iv=.int .i64 i/\Hid (cl L f 0=cl L i d)/\wr=w) (fun _ iv _=>L.length-(intOf iv).toNat)
 case atStart=>exact⟨f,0,hf,by omega,rfl,rfl,j0 rfl,rfl⟩
 case round=>
  obtain⟨i,d,hi,hd,rfl,rfl,HC,hwr⟩:=hrel;obtain rfl:w=wr:=hwr.symm
  by_cases hlt:i<L.length
  ·obtain⟨g,cap',hv,hg,c0,_⟩:=HA.out.get hlt 0;injection hv with hv1 _ hv2;subst hv1 hv2;have HS:=j0 (QL (deep:=d) hlt);generalize jR L i=k at*
   by_cases h1:k=1
   ·subst h1;have HN:Hid (cl L f 0=cl L (i+1) (d+1)):=j0 (by rw [HC.out,HS.out,if_pos (.inl rfl)]);clear HS HC
    go_wp2_with fail
    go_roundw
    case rel=>exact⟨i+1,d+1,by omega,by omega,by go_num,by go_num,HN,by first|rfl|trivial⟩
    case measure=>simp [intOf];omega
   by_cases h2:k=2
   ·subst h2;have HN:Hid (cl L f 0=cl L (i+1) (d+1)):=j0 (by rw [HC.out,HS.out,if_pos (.inr rfl)]);clear HS HC h1
    go_wp2_with fail
    go_roundw
    case rel=>exact⟨i+1,d+1,by omega,by omega,by go_num,by go_num,HN,by first|rfl|trivial⟩
    case measure=>simp [intOf];omega
   by_cases h3:k=3
   ·subst h3
    by_cases hd0:d=0
    ·subst hd0;have HF:Hid (R=(i:Int)):=j0 (by rw [HR.out,HC.out,HS.out,if_neg (by omega),if_pos rfl,if_pos rfl];rfl);clear HS HC h1 h2
     go_wp2_with fail
     go_ret
     exact⟨by rw [HF.out]<;>rfl,rfl⟩
    ·obtain⟨d1,rfl⟩:∃d1,d=d1+1:=⟨d-1,by omega⟩;have HN:Hid (cl L f 0=cl L (i+1) d1):=j0 (by rw [HC.out,HS.out,if_neg (by omega),if_pos rfl,if_neg (by omega)];rfl);have b0:(((d1+1:Nat):Int)==0)=false:=by simp;omega
     have b1:((d1+1:Nat):Int)-1=(d1:Int):=by omega
     have b2:((d1:Int)+1==0)=false:=by simp;omega
     clear HS HC h1 h2 hd0
     go_wp2_with fail
     go_roundw
     case rel=>exact⟨i+1,d1,by omega,by omega,by first|rfl|go_num,by go_num,HN,by first|rfl|trivial⟩
     case measure=>simp [intOf];omega
   ·have HN:Hid (cl L f 0=cl L (i+1) d):=j0 (by rw [HC.out,HS.out,if_neg (by omega),if_neg h3]);have b1:((k:Int)==1)=false:=by simpa using h1
    have b2:((k:Int)==2)=false:=by simpa using h2
    have b3:((k:Int)==3)=false:=by simpa using h3
    clear HS HC h1 h2 h3
    go_wp2_with fail
    go_roundw
    case rel=>exact⟨i+1,d,by omega,by omega,rfl,by go_num,HN,by first|rfl|trivial⟩
    case measure=>simp [intOf];omega
  ·have HF:Hid (R= -1):=j0 (by rw [HR.out,HC.out,cl_end (by omega)];rfl)
   go_wp2_with fail
   go_ret
   exact⟨by rw [HF.out]<;>rfl,rfl⟩
theorem YS{L:jq}{v:Value}(i size:Nat)(w:World)(h:qK w v L):
  Calls Tryz.prog 144 #[v,.int .i64 (i:Int),.int .i64 (size:Int)] w fun e w'=>e=.returned (.int .i64 (ki L size i:Int))/\w'=w:=by
 by_cases hi:i<L.length
 ·obtain⟨g,cap,rfl,hg,c0,c1,_⟩:=h.get hi size;clear h;generalize ki L size i=p at*
  go_enter Tryz.func144,Tryz.ntmps144
  go_wp2_with fail
  go_ret
  exact⟨rfl,rfl⟩
 ·obtain⟨p,cap,rfl⟩:=h.slice;rw [pl_end (by omega)];clear h
  go_enter Tryz.func144,Tryz.ntmps144
  go_wp2_with fail
  go_ret
  exact⟨rfl,rfl⟩
end
end Go.Proofs.YtnmalggmbeipaaaGreatDoor
