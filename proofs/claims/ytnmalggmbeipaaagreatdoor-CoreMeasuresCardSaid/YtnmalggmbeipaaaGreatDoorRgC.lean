/- A part of the proof. -/
import Derived.Test.YtnmalggmbeipaaaGreatDoorRgB
set_option maxRecDepth 100000
set_option maxHeartbeats 16000000
namespace Go.Proofs.YtnmalggmbeipaaaGreatDoor
section
open Go Go.RowKit
attribute [local go_sem ↓] Go.wp_at_zero Go.wp_at_succ
attribute [local go_sem] qX
def frV(o:Option (Nat×Int)):Value:=match o with
 |some (p,e)=>.agg #[.int .i64 (p:Int),.int .i64 e]
 |none=>.agg #[.int .i64 0,.int .i64 0]
theorem Qo{L:jq}{v:Value}(size:Nat)(hlen:L.length<=1048576)(w:World)(h:qK w v L):
  Calls Tryz.prog 52 #[v,.int .i64 (size:Int)] w fun e w'=>e=.returned (frV (fr L size 0 0 false))/\Below w.heap.size w w':=by
 obtain⟨p,cap,rfl⟩:=h.slice;have HA:=j0 h;obtain⟨R,hR⟩:∃R,R=frV (fr L size 0 0 false):=⟨_,rfl⟩;rw [<-hR];have HR:=j0 hR;obtain⟨W0,hW0⟩:∃W0,W0=w.alloc (.cells #[.int .i64 0,.int .i64 0] 52):=⟨_,rfl⟩;have HB0:Hid (Below w.heap.size w W0):=j0 (by rw [hW0];exact j3 w _);have HK0:Hid (W0.heap[w.heap.size]? =some (.cells #[.int .i64 0,.int .i64 0] 52)):=j0 (by rw [hW0];exact j1 w _);have HE0:=j0 hW0;clear h hR hW0
 go_enter Tryz.func52,Tryz.ntmps52
 go_wp2_with fail
 rw [<-HE0.out];clear HE0
 go_loopw [5,6,7] (fun dv av iv wr=>∃(i d:Nat) (a:Bool),i<=L.length/\d<=i/\dv=.int .i64 d/\av=.bool a/\iv=.int .i64 i/\Hid (fr L size 0 0 false=fr L size i d a)/\Hid (Below W0.heap.size W0 wr)) (fun _ _ iv _=>L.length-(intOf iv).toNat)
 case atStart=>exact⟨0,0,false,by omega,by omega,rfl,rfl,rfl,j0 rfl,j0 (Below.refl _ _)⟩
 case round=>
  obtain⟨i,d,a,hi,hd,rfl,rfl,rfl,HC,HB⟩:=hrel;have hbk:wr.heap[w.heap.size]? =some (.cells #[.int .i64 0,.int .i64 0] 52):=(HB.out.block _ (jS HK0.out)).trans HK0.out;have q0:=jC hbk 0;have q1:=jC hbk 1;have z0:=jU hbk 0;have z1:=jU hbk 1;have hbl:=jS hbk;simp only [Reg.la,Reg.lb,Reg.lc] at q0 q1;clear hbk;have HBW:=j0 (HB0.out.trans (HB.out.mono HB0.out.size))
  by_cases hlt:i<L.length
  ·obtain⟨g,cap',hv,hg,c0,c1,c2,⟨c3,c4,c5,c6⟩,c7,c8,c9⟩:=(HA.out.below HBW.out).get hlt size;injection hv with hv1 _ hv2;subst hv1 hv2;have HS:=j0 (KC (size:=size) (deep:=d) (ahead:=a) hlt);have HN:=j0 (fun(o:Obj)=>HB.out.trans ((j3 wr o).mono HB.out.size));have HNW:=j0 (fun(o:Obj)=>HBW.out.trans ((j3 wr o).mono HBW.out.size));generalize jR L i=k at*;generalize ki L size i=p at*;generalize enR L i=pe at*;generalize xv L i=tk at*
   by_cases h0:k=0
   ·subst h0;have HX:Hid (fr L size 0 0 false=fr L size (i+1) d true):=j0 (by rw [HC.out,HS.out,if_pos rfl]);clear HS HC q0 q1 z0 z1
    go_wp2_with fail
    go_roundw
    case rel=>exact⟨i+1,d,true,by omega,by omega,by first|rfl|go_num,rfl,by go_num,HX,HN.out _⟩
    case measure=>simp [intOf];omega
   have b0:((k:Int)==0)=false:=by simpa using h0
   by_cases h1:k=1
   ·subst h1
    by_cases hdd:200<=d
    ·have hd2:(200:Int)<=(d:Int):=by omega
     clear hdd;have HF:Hid (R=.agg #[.int .i64 (p:Int),.int .i64 3]):=j0 (by rw [HR.out,HC.out,HS.out,if_neg (by omega),if_pos (.inl rfl),if_pos (by omega)];rfl);clear HS HC HN
     go_wp2_with fail
     refine bodyPost_ret (v:=.agg #[.int .i64 (p:Int),.int .i64 3]) (by simp [results,Tryz.results52,go_sem,hbl,q0,q1]) rfl ⟨by rw [HF.out],?_⟩;have hX:=(HBW.out.setCell (p:=⟨w.heap.size,0,none⟩) (jN _) (.int .i64 (p:Int))).setCell (p:=⟨w.heap.size,1,none⟩) (jN _) (.int .i64 3);exact hX.alloc hX.size _
    ·have hd2:(d:Int)<200:=by omega
     have hd3:decide ((200:Int)<=(d:Int))=false:=jF (by omega);have HS2:=j0 hdd;clear hdd;have HX:Hid (fr L size 0 0 false=fr L size (i+1) (d+1) false):=j0 (by rw [HC.out,HS.out,if_neg (by omega),if_pos (.inl rfl),if_neg HS2.out]);clear HS HC q0 q1 z0 z1
     go_wp2_with fail
     go_roundw
     case rel=>exact⟨i+1,d+1,false,by omega,by omega,by first|rfl|go_num,rfl,by go_num,HX,HN.out _⟩
     case measure=>simp [intOf];omega
   have b1:((k:Int)==1)=false:=by simpa using h1
   by_cases h2:k=2
   ·subst h2
    by_cases hdd:200<=d
    ·have hd2:(200:Int)<=(d:Int):=by omega
     clear hdd;have HF:Hid (R=.agg #[.int .i64 (p:Int),.int .i64 3]):=j0 (by rw [HR.out,HC.out,HS.out,if_neg (by omega),if_pos (.inr rfl),if_pos (by omega)];rfl);clear HS HC HN
     go_wp2_with fail
     refine bodyPost_ret (v:=.agg #[.int .i64 (p:Int),.int .i64 3]) (by simp [results,Tryz.results52,go_sem,hbl,q0,q1]) rfl ⟨by rw [HF.out],?_⟩;have hX:=(HBW.out.setCell (p:=⟨w.heap.size,0,none⟩) (jN _) (.int .i64 (p:Int))).setCell (p:=⟨w.heap.size,1,none⟩) (jN _) (.int .i64 3);exact hX.alloc hX.size _
    ·have hd2:(d:Int)<200:=by omega
     have hd3:decide ((200:Int)<=(d:Int))=false:=jF (by omega);have HS2:=j0 hdd;clear hdd;have HX:Hid (fr L size 0 0 false=fr L size (i+1) (d+1) false):=j0 (by rw [HC.out,HS.out,if_neg (by omega),if_pos (.inr rfl),if_neg HS2.out]);clear HS HC q0 q1 z0 z1
     go_wp2_with fail
     go_roundw
     case rel=>exact⟨i+1,d+1,false,by omega,by omega,by first|rfl|go_num,rfl,by go_num,HX,HN.out _⟩
     case measure=>simp [intOf];omega
   have b2:((k:Int)==2)=false:=by simpa using h2
   by_cases h3:k=3
   ·subst h3
    by_cases hd0:d=0
    ·subst hd0;have HF:Hid (R=.agg #[.int .i64 (p:Int),.int .i64 4]):=j0 (by rw [HR.out,HC.out,HS.out,if_neg (by omega),if_neg (by omega),if_pos rfl,if_pos rfl];rfl);clear HS HC
     go_wp2_with fail
     refine bodyPost_ret (v:=.agg #[.int .i64 (p:Int),.int .i64 4]) (by simp [results,Tryz.results52,go_sem,hbl,q0,q1]) rfl ⟨by rw [HF.out],?_⟩;have hX:=(HBW.out.setCell (p:=⟨w.heap.size,0,none⟩) (jN _) (.int .i64 (p:Int))).setCell (p:=⟨w.heap.size,1,none⟩) (jN _) (.int .i64 4);exact hX.alloc hX.size _
    ·obtain⟨d1,rfl⟩:∃d1,d=d1+1:=⟨d-1,by omega⟩;have e1:((d1+1:Nat):Int)-1=(d1:Int):=by omega
     have e2:((d1:Int)+1==0)=false:=by simp;omega
     have e3:(((d1+1:Nat):Int)==0)=false:=by simp;omega
     clear hd0;have HX:Hid (fr L size 0 0 false=fr L size (i+1) d1 true):=j0 (by rw [HC.out,HS.out,if_neg (by omega),if_neg (by omega),if_pos rfl,if_neg (by omega)];rw [show d1+1-1=d1 from rfl]);clear HS HC q0 q1 z0 z1
     go_wp2_with fail
     go_roundw
     case rel=>exact⟨i+1,d1,true,by omega,by omega,by first|rfl|go_num,rfl,by go_num,HX,HN.out _⟩
     case measure=>simp [intOf];omega
   have b3:((k:Int)==3)=false:=by simpa using h3
   by_cases h4:k=4
   ·subst h4;have HX:Hid (fr L size 0 0 false=fr L size (i+1) d false):=j0 (by rw [HC.out,HS.out,if_neg (by omega),if_neg (by omega),if_neg (by omega),if_pos rfl]);clear HS HC q0 q1 z0 z1
    go_wp2_with fail
    go_roundw
    case rel=>exact⟨i+1,d,false,by omega,by omega,by first|rfl|go_num,rfl,by go_num,HX,HN.out _⟩
    case measure=>simp [intOf];omega
   have b4:((k:Int)==4)=false:=by simpa using h4
   cases a with
   |true=>
    have HX:Hid (fr L size 0 0 false=fr L size (i+1) d false):=j0 (by rw [HC.out,HS.out,if_neg h0,if_neg (by omega),if_neg h3,if_neg h4,if_pos rfl]);clear HS HC h0 h1 h2 h3 h4 q0 q1 z0 z1
    go_wp2_with fail
    go_roundw
    case rel=>exact⟨i+1,d,false,by omega,by omega,by first|rfl|go_num,rfl,by go_num,HX,HN.out _⟩
    case measure=>simp [intOf];omega
   |false=>
    have HF:Hid (R=.agg #[.int .i64 (p:Int),.int .i64 4]):=j0 (by rw [HR.out,HC.out,HS.out,if_neg h0,if_neg (by omega),if_neg h3,if_neg h4,if_neg (by simp)];rfl);clear HS HC h0 h1 h2 h3 h4
    go_wp2_with fail
    refine bodyPost_ret (v:=.agg #[.int .i64 (p:Int),.int .i64 4]) (by simp [results,Tryz.results52,go_sem,hbl,q0,q1]) rfl ⟨by rw [HF.out],?_⟩;have hX:=(HBW.out.setCell (p:=⟨w.heap.size,0,none⟩) (jN _) (.int .i64 (p:Int))).setCell (p:=⟨w.heap.size,1,none⟩) (jN _) (.int .i64 4);exact hX.alloc hX.size _
  ·by_cases hd0:0<d
   ·have HF:Hid (R=.agg #[.int .i64 (size:Int),.int .i64 4]):=j0 (by rw [HR.out,HC.out,Vt (by omega),if_pos hd0];rfl);have hd2:(0:Int)<(d:Int):=by omega
    clear HC
    go_wp2_with fail
    refine bodyPost_ret (v:=.agg #[.int .i64 (size:Int),.int .i64 4]) (by simp [results,Tryz.results52,go_sem,q0,q1]) rfl ⟨by rw [HF.out],?_⟩;exact(HBW.out.setCell (p:=⟨w.heap.size,0,none⟩) (jN _) _).setCell (p:=⟨w.heap.size,1,none⟩) (jN _) _
   ·obtain rfl:d=0:=by omega
    have HF:Hid (R=.agg #[.int .i64 0,.int .i64 0]):=j0 (by rw [HR.out,HC.out,Vt (by omega),if_neg hd0];rfl);clear HC
    go_wp2_with fail
    refine bodyPost_ret (v:=.agg #[.int .i64 0,.int .i64 0]) (by simp [results,Tryz.results52,go_sem,q0,q1]) rfl ⟨by rw [HF.out],?_⟩;exact(HBW.out.setCell (p:=⟨w.heap.size,0,none⟩) (jN _) _).setCell (p:=⟨w.heap.size,1,none⟩) (jN _) _
end
end Go.Proofs.YtnmalggmbeipaaaGreatDoor
