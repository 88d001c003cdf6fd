/- A part of the proof. -/
import Derived.Test.YtnmalggmbeipaaaGreatDoorPbG
set_option maxRecDepth 100000
set_option maxHeartbeats 16000000
namespace Go.Proofs.YtnmalggmbeipaaaGreatDoor
open Go Go.RowKit
attribute [local go_sem ↓] Go.wp_at_zero Go.wp_at_succ
attribute [local go_sem] qX
def qj(u:Tr)(ps:List Int):Int:=if J4 u=true then xk u ps else 201
theorem KF(u:Tr)(ps:List Int)(c:Int)(hc:0<=c)(h:∀x∈ps,x<=c):0<=xk u ps/\xk u ps<=c+1:=by
 cases u with
 |mk k s lo hi z a b l=>
  have:=ZK ps c hc h;unfold xk
  split<;>omega
theorem QG(jP:Tr->List Int->Int)(e:Int)(hnum:∀u ps (c:Int),0<=c->(∀x∈ps,x<=c+e)->0<=jP u ps/\jP u ps<=c+e+1):∀(n:Nat) (u:Tr),jc u<=n->0<=jW jP u/\jW jP u<=jc u+e:=by
 intro n
 induction n with
 |zero=>intro u hu;have:=vg u;omega
 |succ n ih=>
  intro u hu;rw [Jy];have hs:=kI u
  have:=hnum u ((kM u).map (jW jP)) ((jz (kM u):Nat):Int) (by omega) (fun x hx=>by
   obtain⟨c,hc,rfl⟩:=List.mem_map.1 hx;have h1:=jZ hc;have:=ih c (by omega)
   omega)
  omega
theorem Zl(u:Tr):0<=jW xk u/\jW xk u<=jc u:=by
 have:=QG xk 0 (fun u ps c hc h=>by have:=KF u ps c hc (fun x hx=>by have:=h x hx;omega);omega) (jc u) u (jN _);omega
theorem Ku(u:Tr):0<=jW qj u/\jW qj u<=jc u+201:=by
 refine QG qj 201 (fun u ps c hc h=> ?_) (jc u) u (jN _);unfold qj
 split
 ·have:=KF u ps (c+201) (by omega) h;omega
 ·omega
theorem Xj{u:Tr}{N:Nat}(h:jc u<=N):(kM u).length<=N:=by
 have:=kZ (kM u);have:=kI u;omega
theorem cf_right1(args:Array Value)(W:World):(callFunc 97 args).run Tryz.prog W=.ok (.enter 97 args) W:=by
 simp [callFunc,Tryz.func97,mark,Sem.run];rfl
theorem QJ(A:Nat->Prop)(u:Tr)(q:Nat)(v:Value)(ps:List Int)(w:World)(hu:jJ w A u (j6 q))(hp:NumsAt w v ps)(hle:∀x∈ps,x<=1099511627776)(hn:ps.length<=1099511627776):
  Calls Tryz.prog 99 #[j6 q,v] w fun e w'=>e=.returned (.int .i64 (xk u ps))/\w'=w:=by
 obtain⟨k,s,lo,hi,z,a,b,l⟩:=u;obtain⟨q',np,nc,e,_,hq,_⟩:=hu.head;injection e with e;injection e with e;injection e with e;subst e;exact Vh q k s lo hi z _ v a b l ps w hq hp hle hn
theorem numc_deep(w0:World):NumC 99 #[] xk w0 1099511000000:=by
 intro A X u q pv _ hu hN hp;have hlen:=Xj hN;refine(QJ A u q pv _ X hu hp (fun x hx=> ?_) (by simp;omega)).mono ?_
 ·obtain⟨c,hc,rfl⟩:=List.mem_map.1 hx;have:=(Zl c).2;have:=jZ hc;have:=kI u;omega
 ·rintro e w' ⟨rfl,rfl⟩;rw [<-Jy xk u];exact⟨rfl,Below.refl _ _⟩
theorem Z2(w0:World):NumC 97 #[] qj w0 1099511000000:=by
 intro A X u q pv _ hu hN hp;have hlen:=Xj hN;have SO:=j0 (Yz A u q X hu (by omega))
 have DE:=j0 (fun X' (hX:Below X.heap.size X X')=>QJ A u q pv _ X' (hu.up hX) (hp.below hX) (fun x hx=>by
  obtain⟨c,hc,rfl⟩:=List.mem_map.1 hx;have:=(Ku c).2;have:=jZ hc;have:=kI u
  omega) (by simp;omega))
 rw [Jy];have HF:Hid (qj u ((kM u).map (jW qj))=if J4 u=true then xk u ((kM u).map (jW qj)) else 201):=j0 rfl;generalize qj u ((kM u).map (jW qj))=res at*;generalize xk u ((kM u).map (jW qj))=d at*;generalize J4 u=b at*;clear hu hp hN hlen
 go_enter Tryz.func97,Tryz.ntmps97
 go_wp2_with fail
 refine SO.out.mono ?_;rintro e w1 ⟨rfl,h1⟩;have H1:=j0 h1;have D1:=j0 (DE.out w1 h1);clear h1 DE SO
 cases b with
 |true=>
  have HF2:Hid (res=d):=j0 (by rw [HF.out];rfl);clear HF
  go_wp2_with fail
  refine D1.out.mono ?_;rintro e w2 ⟨rfl,hw⟩;obtain rfl:w1=w2:=hw.symm;clear D1
  go_wp2_with fail
  exact bodyPost_ret (v:=.int .i64 d) (by simp [results,Tryz.results97,go_sem]) rfl ⟨by rw [HF2.out],H1.out⟩
 |false=>
  have HF2:Hid (res=201):=j0 (by rw [HF.out];rfl);clear HF
  go_wp2_with fail
  exact bodyPost_ret (v:=.int .i64 201) (by simp [results,Tryz.results97,go_sem]) rfl ⟨by rw [HF2.out],H1.out⟩
theorem YB(A:Nat->Prop)(t:Tr)(q:Nat)(w:World)(ht:jJ w A t (j6 q))(hs:jc t<=1099511000000):
  Calls Tryz.prog 54 #[j6 q] w fun e w'=>e=.returned (.bool (decide (jW qj t<=200)))/\Below w.heap.size w w':=by
 have FO:=j0 (pfold_any cf_right1 (Z2 w) (fun u _=>by have:=(Ku u).1;omega) (by omega) t q A ht hs);generalize jW qj t=d at*;clear ht hs;obtain⟨b,hb⟩:∃b,b=decide (d<=200):=⟨_,rfl⟩;rw [<-hb];have HB:=j0 hb;clear hb
 go_enter Tryz.func54,Tryz.ntmps54
 go_wp2_with fail
 refine FO.out.mono ?_;rintro e w1 ⟨rfl,h1⟩;have H1:=j0 h1;clear h1 FO
 go_wp2_with fail
 exact bodyPost_ret (v:=.bool (decide (d<=200))) (by simp [results,Tryz.results54,go_sem]) rfl ⟨by rw [HB.out],H1.out⟩
end Go.Proofs.YtnmalggmbeipaaaGreatDoor
