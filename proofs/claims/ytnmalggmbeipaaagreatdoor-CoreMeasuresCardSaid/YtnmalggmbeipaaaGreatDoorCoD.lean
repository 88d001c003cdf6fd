/- A part of the proof. -/
import Derived.Test.YtnmalggmbeipaaaGreatDoorCoC
set_option maxRecDepth 100000
set_option maxHeartbeats 16000000
namespace Go.Proofs.YtnmalggmbeipaaaGreatDoor
section
open Go Go.RowKit
attribute [local go_sem ↓] Go.wp_at_zero Go.wp_at_succ
attribute [local go_sem] qX
theorem QP(A:Nat->Prop)(l:List Tr)(v:Value)(w:World)(hB:∀u∈l,yK u)(hn:∀u∈l,jo u≠ .nil)(hlen:l.length<=1000000000)(hv:NdsAt w A v l):
  Calls Tryz.prog 104 #[v] w fun e w'=>∃r,e=.returned r/\KN w' r (l.map jo)/\Below w.heap.size w w':=by
 obtain⟨p,cap,rfl,h1⟩:=hv;have hmk:=mk_cores l.length hlen w;obtain⟨w1,hw1⟩:∃X,X=w.alloc (.cells (List.replicate l.length (.pointer none)).toArray 23):=⟨_,rfl⟩;rw [<-hw1] at hmk;have HR1:Hid (zY w1 w.heap.size l 0 (List.replicate l.length (.pointer none))):=j0 ⟨List.length_replicate ..,by rw [hw1];exact j1 w _,fun j u hj=>by omega⟩;have HB1:Hid (Below w.heap.size w w1):=j0 (by rw [hw1];exact j3 w _);have H1:=j0 h1;have HBC:=j0 hB;have HNE:=j0 hn;clear hw1 h1 hB hn
 go_enter Tryz.func104,Tryz.ntmps104
 go_wp2_with fail
 clear hmk
 go_loopw [11] (fun iv wr=>∃(i:Nat) (arr:List Value),i<=l.length/\iv=.int .i64 (i:Int)/\Hid (zY wr w.heap.size l i arr)/\Hid (Below w.heap.size w wr)) (fun iv _=>l.length-(intOf iv).toNat)
 case atStart=>exact⟨0,_,by omega,rfl,HR1,HB1⟩
 case round=>
  obtain⟨i,arr,hi,rfl,HR,HB⟩:=hrel
  by_cases hlt:i<l.length
  ·obtain⟨u,hu⟩:∃u,l[i]? =some u:=⟨_,List.getElem?_eq_getElem hlt⟩;have hm:=List.mem_of_getElem? hu;obtain⟨c,q,rfl,hc1,hc2,hc3⟩:=H1.out i u hu;have hcell:wr.cell? ⟨c,i,none⟩=some (j6 q):=(HB.out.cell (p:=⟨c,i,none⟩) hc1).trans hc2;have HC:=j0 (HBC.out u hm A q wr (hc3.up HB.out));have HNN:=j0 (HNE.out u hm);have HU:=j0 hu;clear hu hm hc1 hc2 hc3
   go_wp2_with fail
   refine HC.out.mono ?_;rintro e w2 ⟨v2,rfl,c2,b2⟩
   rcases c2.nil_iff with ⟨h,_⟩|⟨_,q2,rfl⟩
   ·exact absurd h HNN.out
   have HR2:=j0 (HR.out.up b2);have HB2:=j0 (HB.out.trans (b2.mono HB.out.size));have HC2:=j0 c2;have hcl:w2.cell? ⟨w.heap.size,i,none⟩=some (arr[i]'(by rw [HR.out.1];exact hlt)):=by rw [jC HR2.out.2.1 i];simp [HR.out.1,hlt]
   have hfz:=jU HR2.out.2.1 i;have HS:=j0 (HR2.out.set HU.out HC2.out);have HB3:Hid (Below w.heap.size w (w2.setCell ⟨w.heap.size,i,none⟩ (.pointer (some ⟨q2,0,none⟩)))):=j0 (HB2.out.setCell (p:=⟨w.heap.size,i,none⟩) (jN _) _);clear c2 b2 HC hcell
   go_wp2_with fail
   go_roundw
   case rel=>first|exact⟨i+1,_,by omega,by go_num,HS,HB3⟩|((repeat apply Exists.intro);refine⟨?_,rfl⟩;exact⟨i+1,_,by omega,by go_num,HS,HB3⟩)
   case measure=>simp [intOf];omega
  ·obtain rfl:i=l.length:=by omega
   go_wp2_with fail
   go_ret
   exact⟨_,rfl,HR.out.done _,HB.out⟩
end
end Go.Proofs.YtnmalggmbeipaaaGreatDoor
