/- A part of the proof. -/
import Derived.Test.YtnmalggmbeipaaaGreatDoorCoR
import Derived.Test.YtnmalggmbeipaaaGreatDoorPrK
namespace Go.Proofs.YtnmalggmbeipaaaGreatDoor
section
open Go Go.RowKit
attribute [local go_sem ↓] Go.wp_at_zero Go.wp_at_succ
attribute [local go_sem] qX
def yL(lo hi:Int)(z:Bool)(c:Co):Co:=if hi= -1 then .node 4 j7 z c .nil else(List.replicate (hi-lo).toNat c).foldr (fun c b=>qy z (k9 2 c b)) .nil
def Jp:Co->Co
 | .nil=>yD
 |c=>c
def V3(lo hi:Int)(z:Bool)(c:Co):Co:=Jp ((List.replicate lo.toNat c).foldr (k9 2) (yL lo hi z c))
def coreK(k:Int)(s:W4)(lo hi:Int)(z:Bool)(cs:List Co):Co:=
 if k=1 then .node 1 s false .nil .nil else if k=2\/k=3 then cs.headD .nil else if k=4 then cs.foldr (k9 2) .nil else if k=5 then cs.foldr (k9 3) .nil else if k=6 then V3 lo hi z (cs.headD .nil) else yD
mutual
def jo:Tr->Co
 | .mk k s lo hi z _ _ l=>coreK k s lo hi z (Vy l)
def Vy:List Tr->List Co
 | []=> []
 |t::r=>jo t::Vy r
end
theorem kc:∀l:List Tr,Vy l=l.map jo
 | []=>rfl
 |t::r=>by rw [Vy,kc r];rfl
theorem zl(k:Int):∀(cs:List Co) (b:Co),(∀c∈cs,c≠ .nil)->(cs≠ []\/b≠ .nil)->cs.foldr (k9 k) b≠ .nil
 | [],b,_,h=>by
  rcases h with h|h
  ·exact absurd rfl h
  ·exact h
 |c::r,b,hc,_=>QC k c _ (hc c (List.mem_cons_self ..))
theorem YZ(c:Co):Jp c≠ .nil:=by
 cases c with
 |nil=>exact Co.noConfusion
 |node=>exact Co.noConfusion
theorem yF{t:Tr}(h:zu t):jo t≠ .nil:=by
 induction h with
 |empty a b=>rw [jo];exact Co.noConfusion
 |set s a b hs=>rw [jo];exact Co.noConfusion
 |group k a b u hk hu ih=>
  rw [jo,kc]
  rcases hk with rfl|rfl<;>exact ih
 |cat a b l hl hi h ih=>
  rw [jo,kc];exact zl 2 _ _ (fun c hc=>by obtain⟨u,hu,rfl⟩:=List.mem_map.1 hc;exact ih u hu) (.inl (by intro e;rw [List.map_eq_nil_iff] at e;subst e;simp at hl))
 |alt a b l hl hi h ih=>
  rw [jo,kc];exact zl 3 _ _ (fun c hc=>by obtain⟨u,hu,rfl⟩:=List.mem_map.1 hc;exact ih u hu) (.inl (by intro e;rw [List.map_eq_nil_iff] at e;subst e;simp at hl))
 |rep lo hi z a b u hc hu h ih=>
  rw [jo,kc];exact YZ _
def yK(u:Tr):Prop:=∀(A:Nat->Prop) (q:Nat) (X:World),jJ X A u (j6 q)->Calls Tryz.prog 58 #[j6 q] X fun e w'=>∃v,e=.returned v/\jD w' (jo u) v/\Below X.heap.size X w'
def NdsAt(w:World)(A:Nat->Prop)(v:Value)(l:List Tr):Prop:=∃p cap,v=.slice p l.length cap/\∀i u,l[i]? =some u->∃c q,p=some ⟨c,0,none⟩/\c<w.heap.size/\w.cell? ⟨c,i,none⟩=some (j6 q)/\jJ w A u (j6 q)
theorem Tryz.infoCoP:(Tryz.prog.info? 23).map (fun i=>(i.zero,i.size,i.bytes))=some (some (.pointer none),1,8):=by kernel_rfl
theorem mk_cores(n:Nat)(hn:n<=1000000000)(w:World):(Instr.makeSlice 152 (.int .i64 (n:Int)) (.int .i64 (n:Int))).run Tryz.prog w=.ok (.slice (some ⟨w.heap.size,0,none⟩) n n) (w.alloc (.cells (List.replicate n (.pointer none)).toArray 23)):=by
 obtain⟨i0,hi,hz0,hz1,hz2⟩:=info_parts Tryz.infoCoP;have h:=run_make (P:=Tryz.prog) w 152 23 i0 _ Tryz.underlying152 hi hz0 .i64 .i64 (n:Int) (n:Int) (by omega) (by omega) (by rw [hz2];omega) (by omega)
 have e:madeCells (Value.pointer none).cells (n*1)=(List.replicate n (Value.pointer none)).toArray:=by
  apply Array.toList_inj.1;rw [Nat.mul_one]
  show(madeCells #[.pointer none] n).toList=_
  rw [toList_madeCells_one]
 rw [Nat.mul_one] at e;rw [Int.toNat_natCast,hz1,Nat.mul_one,e] at h;exact h
def zY(w:World)(M:Nat)(l:List Tr)(i:Nat)(arr:List Value):Prop:=
 arr.length=l.length/\w.heap[M]? =some (.cells arr.toArray 23 (0,0))/\∀j u,j<i->l[j]? =some u->∃q,arr[j]? =some (.pointer (some ⟨q,0,none⟩))/\jD w (jo u) (.pointer (some ⟨q,0,none⟩))
theorem zY.up{w w':World}{M:Nat}{l:List Tr}{i:Nat}{arr:List Value}(h:zY w M l i arr)(hb:Below w.heap.size w w'):zY w' M l i arr:=
 ⟨h.1,j4 hb h.2.1,fun j u hj hu=>by obtain⟨q,h1,h2⟩:=h.2.2 j u hj hu;exact⟨q,h1,h2.up hb⟩⟩
theorem zY.set{w:World}{M:Nat}{l:List Tr}{i:Nat}{arr:List Value}{u:Tr}{q:Nat}(h:zY w M l i arr)(hu:l[i]? =some u)(hc:jD w (jo u) (.pointer (some ⟨q,0,none⟩))):
  zY (w.setCell ⟨M,i,none⟩ (.pointer (some ⟨q,0,none⟩))) M l (i+1) (arr.set i (.pointer (some ⟨q,0,none⟩))):=by
 have hl:=(List.getElem?_eq_some_iff.1 hu).1;have hg:w.grownBy (w.setCell ⟨M,i,none⟩ (.pointer (some ⟨q,0,none⟩))) (some M):=⟨rfl,rfl,rfl,(KeepsWalks.setCell w _ _).size,fun k _ hk=>Below.heap_setCell _ _ _ k (fun e=>hk (by rw [e]))⟩;have keep:∀c v,jD w c v->jD (w.setCell ⟨M,i,none⟩ (.pointer (some ⟨q,0,none⟩))) c v:=fun c v hc=>hc.kept hg (fun r e=>by cases e;exact⟨_,h.2.1,JT.row (by decide)⟩)
 refine⟨by rw [List.length_set];exact h.1,?_,fun j u' hj hu'=> ?_⟩
 ·have:=Joins.block_setCell (i:=i) (v:=.pointer (some ⟨q,0,none⟩)) h.2.1;simpa using this
 ·by_cases e:j=i
  ·subst e;obtain rfl:u=u':=Option.some.inj (hu.symm.trans hu');exact⟨q,by rw [List.getElem?_set_self (by rw [h.1];exact hl)],keep _ _ hc⟩
  ·obtain⟨q',h1,h2⟩:=h.2.2 j u' (by omega) hu';exact⟨q',by rw [List.getElem?_set_ne (by omega)];exact h1,keep _ _ h2⟩
theorem zY.done{w:World}{M:Nat}{l:List Tr}{arr:List Value}(h:zY w M l l.length arr)(cap:Nat):KN w (.slice (some ⟨M,0,none⟩) l.length cap) (l.map jo):=by
 obtain⟨f,hf⟩:∃f:Nat->Nat,f=fun j=>match arr[j]? with|some (.pointer (some a))=>a.block|_=>0:=⟨_,rfl⟩
 have key:∀j u,l[j]? =some u->arr[j]? =some (.pointer (some ⟨f j,0,none⟩))/\jD w (jo u) (.pointer (some ⟨f j,0,none⟩)):=fun j u hu=>by
  obtain⟨q,h1,h2⟩:=h.2.2 j u (List.getElem?_eq_some_iff.1 hu).1 hu;have e:f j=q:=by rw [hf];simp only [h1]
  rw [e];exact⟨h1,h2⟩
 refine⟨_,cap,M,f,by rw [List.length_map],fun j hj=> ?_,fun j c hc=> ?_⟩
 ·rw [List.length_map] at hj;refine⟨rfl,jS h.2.1,?_⟩;rw [jC h.2.1 j];simpa using (key j l[j] (List.getElem?_eq_getElem hj)).1
 ·rw [List.getElem?_map] at hc;obtain⟨u,hu,rfl⟩:=Option.map_eq_some_iff.1 hc;exact(key j u hu).2
end
end Go.Proofs.YtnmalggmbeipaaaGreatDoor
