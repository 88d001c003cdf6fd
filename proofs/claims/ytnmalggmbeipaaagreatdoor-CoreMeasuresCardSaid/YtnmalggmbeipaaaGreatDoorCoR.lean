/- A part of the proof. -/
import Derived.Test.YtnmalggmbeipaaaGreatDoorCoB
import Derived.Test.YtnmalggmbeipaaaGreatDoorCoW
import Derived.Test.YtnmalggmbeipaaaGreatDoorNatA
import Derived.Laws.CopyOwn
import Derived.Laws.MakeOwn
set_option maxRecDepth 100000
set_option maxHeartbeats 16000000
namespace Go.Proofs.YtnmalggmbeipaaaGreatDoor
section
section
open Go Go.RowKit Go.Shelf
attribute [local go_sem] Oper.semAt_some
def KN(w:World)(v:Value)(cs:List Co):Prop:=∃(p:Option Addr) (cap b:Nat) (qs:Nat->Nat),v=.slice p cs.length cap/\
 (∀j,j<cs.length->p=some ⟨b,0,none⟩/\b<w.heap.size/\w.cell? ⟨b,j,none⟩=some (.pointer (some ⟨qs j,0,none⟩)))/\∀j c,cs[j]? =some c->jD w c (.pointer (some ⟨qs j,0,none⟩))
theorem KN.up{w w':World}{v:Value}{cs:List Co}(h:KN w v cs)(hb:Below w.heap.size w w'):KN w' v cs:=by
 obtain⟨p,cap,b,qs,h1,h2,h3⟩:=h;exact⟨p,cap,b,qs,h1,fun j hj=>by obtain⟨g1,g2,g3⟩:=h2 j hj;exact⟨g1,Nat.lt_of_lt_of_le g2 hb.size,(hb.cell (p:=⟨b,j,none⟩) g2).trans g3⟩,fun j c hc=>(h3 j c hc).up hb⟩
def JoinC(fn:FuncId)(caps:Array Value)(j:Co->Co->Co)(w0:World):Prop:=
 ∀(X:World),Below w0.heap.size w0 X->∀(c b:Co) (vc vb:Value),c≠ .nil->jD X c vc->jD X b vb->Calls Tryz.prog fn (#[vc,vb]++caps) X fun e w'=>∃v,e=.returned v/\jD w' (j c b) v/\Below X.heap.size X w'
theorem co_own{β:Type}(B eb:Nat)(t:TypeId)(f:β->Co):OwnFrom B (fun s W=>∃v,Boxed W eb t v/\jD W (f s) v):=by
 rintro s X Y row ⟨v,hv,hc⟩ hg hr;refine⟨v,hv.kept hg (fun e'=> ?_),hc.kept hg (fun r e=>by obtain⟨_,o,ho,hc⟩:=hr r e;exact⟨o,ho,.other hc⟩)⟩;obtain⟨_,o,ho,hc⟩:=hr eb e'.symm;rw [show X.heap[eb]? =_ from hv] at ho
 cases ho
 cases hc
theorem XP{α:Type}(cs:List Co)(val:α->Nat)(f:Co->Co->Co)(b:Co)(g:α->Co)(hg:∀x,cs[val x]? =some (g x))(ys:List α)(h:ys.map val=xV cs.length cs.length):(ys.map g).foldl (fun b c=>f c b) b=cs.foldr f b:=by
 have e:ys.map g=cs.reverse:=by
  have hl:ys.length=cs.length:=by have:=congrArg List.length h;rwa [List.length_map,Jz] at this
  apply List.ext_getElem
  ·simp [hl]
  ·intro i h1 h2;simp at h1 h2
   have hv:val ys[i]=cs.length-1-i:=by
    have:=congrArg (·[i]?) h;simp [xV,h1,h2] at this;exact this
   have:=hg ys[i];rw [hv,List.getElem?_eq_getElem (by omega)] at this;simp;exact(Option.some.inj this).symm
 rw [e,List.foldl_reverse]
theorem zN(fn:FuncId)(caps:Array Value)(j:Co->Co->Co)(cs:List Co)(bh:Co)(vl vbh:Value)(w:World)(hcf:∀args W,(callFunc fn args).run Tryz.prog W=.ok (.enter fn args) W)
  (hcn:∀c∈cs,c≠ .nil) (hlen:cs.length<=1099511627776) (hl:KN w vl cs) (hb:jD w bh vbh) (hj:JoinC fn caps j w):
  Calls Tryz.prog 103 #[vl,vbh,.func (.func fn) #[] caps] w fun e w'=>∃v,e=.returned v/\jD w' (cs.foldr j bh) v/\Below w.heap.size w w':=by
 obtain⟨p,cap,b,qs,rfl,h1,h2⟩:=hl;obtain⟨pb,rfl⟩:=hb.ptr;refine(callsIn_wide (n:=40)).1 ?_;refine callsIn_of_wp_marks Tryz.func103 rfl trivial ?_ rfl;simp only [Tryz.ntmps103,List.size_toArray,List.length_cons,List.length_nil,Nat.reduceAdd,Nat.reduceSub,Array.replicate_succ,Array.replicate_zero,List.push_toArray,List.append_toArray,List.nil_append,List.cons_append]
 gi_wp2_with fail
 refine⟨trivial,?_⟩;refine(cback_in Fence.wide _ trivial rfl p cs.length cap _).mono ?_;rintro e W2 ⟨rfl,hW2⟩;obtain⟨W1,hW1⟩:∃X,X=(w.alloc (.cells #[.pointer pb] 23)).alloc (.cells #[.func (.func fn) #[] caps] 187):=⟨_,rfl⟩;have z1:W1.heap.size=w.heap.size+2:=by rw [hW1,World.size_alloc,World.size_alloc]
 have b1:Below w.heap.size w W1:=by rw [hW1];exact kw w _ _
 have x1:Boxed W1 w.heap.size 23 (.pointer pb):=by rw [hW1];exact(Boxed.new w 23 _).alloc _
 have x2:Boxed W1 (w.heap.size+1) 187 (.func (.func fn) #[] caps):=by
  have h:=Boxed.new (w.alloc (.cells #[.pointer pb] 23)) 187 (.func (.func fn) #[] caps);rw [World.size_alloc] at h;rw [hW1];exact h
 rw [<-hW1] at hW2 ⊢;have b2:Below w.heap.size w W2:=b1.trans (by rw [hW2];exact(j3 W1 _).mono b1.size);have y1:Boxed W2 w.heap.size 23 (.pointer pb):=by rw [hW2];exact x1.alloc _
 have y2:Boxed W2 (w.heap.size+1) 187 (.func (.func fn) #[] caps):=by rw [hW2];exact x2.alloc _
 have y3:Boxed W2 W1.heap.size 152 (.slice p cs.length cap):=by rw [hW2];exact Boxed.new W1 152 _
 have z2:W2.heap.size=w.heap.size+3:=by rw [hW2,World.size_alloc,z1]
 rw [z1] at y3 ⊢;obtain⟨eb,heb⟩:∃eb,eb=w.heap.size:=⟨_,rfl⟩;obtain⟨jb,hjb⟩:∃jb,jb=w.heap.size+1:=⟨_,rfl⟩;obtain⟨Bs,hBs⟩:∃Bs,Bs=w.heap.size+2:=⟨_,rfl⟩
 obtain⟨cb,hcb⟩:∃cb,cb<w.heap.size+1/\∀i,i<cs.length->p=some ⟨cb,0,none⟩/\W2.cell? ⟨cb,i,none⟩=some (.pointer (some ⟨qs i,0,none⟩))/\cb<w.heap.size:=by
  rcases Nat.eq_zero_or_pos cs.length with h|h
  ·exact⟨w.heap.size,by omega,fun i hi=>by omega⟩
  ·obtain⟨g1,g2,g3⟩:=h1 0 h;exact⟨b,by omega,fun i hi=>by obtain⟨k1,k2,k3⟩:=h1 i hi;exact⟨k1,(b2.cell (p:=⟨b,i,none⟩) k2).trans k3,k2⟩⟩
 obtain⟨hcb1,hcb2⟩:=hcb;have hcbn:0<cs.length->cb<w.heap.size:=fun h=>(hcb2 0 h).2.2
 have B2:=j0 b2;have Y1:=j0 y1;have Y2:=j0 y2;have Y3:=j0 y3;have C2:=j0 (hb.up b2);have HH2:=j0 h2;have HEB:=j0 heb;have HJB:=j0 hjb;have HBS:=j0 hBs;have HZ2:=j0 z2;rw [<-heb] at Y1;rw [<-hjb] at Y2;rw [<-hBs] at Y3;rw [<-hBs];have hf1:(w.alloc (.cells #[.pointer pb] 23)).heap.size=jb:=by rw [World.size_alloc,hjb]
 clear hW1 hW2 z1 b1 x1 x2 b2 y1 y2 y3 z2 h1 h2 hb;have e0:w.heap.size+1=jb:=hjb.symm;have e1:w.heap.size=eb:=heb.symm;have HE0:=j0 e0;have HE1:=j0 e1
 have hz:eb<W2.heap.size/\jb<W2.heap.size/\Bs<W2.heap.size/\cb<W2.heap.size/\eb≠Bs/\(0<cs.length->eb≠cb):=by
  refine⟨by rw [HZ2.out];omega,by rw [HZ2.out];omega,by rw [HZ2.out];omega,by rw [HZ2.out];omega,by omega,fun h=>by have:=hcbn h;omega⟩
 obtain⟨hz1,hz2,hz3,hz4,hz5,hz6⟩:=hz;clear e0 e1 heb hjb hBs
 gi_wp2_with fail
 rw [HE0.out,HE1.out];have hro:(Fence.wide).round=none:=rfl;have hcbk:∀i,i<cs.length->p=some ⟨cb,0,none⟩/\W2.cell? ⟨cb,i,none⟩=some (.pointer (some ⟨qs i,0,none⟩)):=fun i hi=>⟨(hcb2 i hi).1,(hcb2 i hi).2.1⟩
 refine wpIn_rangeFunc_ownG hro (by omega) (gf:=199) (lb:= #[.pointer (some ⟨Bs,0,none⟩)]) rfl trivial (enters_of Tryz.func199 (by kernel_rfl) rfl)
  (XX (α:=Fin cs.length) Fin.val (fun y=> #[.int .i64 (y.val:Int),.pointer (some ⟨qs y.val,0,none⟩)]) Fence.wide _ trivial rfl (by omega) Bs cb p cap cs.length qs hlen (fun i hi=>⟨⟨i,hi⟩,rfl,rfl⟩) W2 hz3 hz4 Y3.out.cell hcbk)
  (fun h k=>h.trans k) (keepB_b hz3 hz4) (Below.refl _ _) (fun _=>rfl)
  (fun pre W=>(∃v,Boxed W eb 23 v/\jD W ((pre.map (fun x:Fin cs.length=>cs[x])).foldl (fun b c=>j c b) bh) v)/\(Boxed W jb 187 (.func (.func fn) #[] caps)/\(Below w.heap.size w W/\Boxed W Bs 152 (.slice p cs.length cap))))
  (fun _ _ _=>False)
  ((co_own _ eb 23 (fun pre:List (Fin cs.length)=>(pre.map (fun x:Fin cs.length=>cs[x])).foldl (fun b c=>j c b) bh)).and (((boxed_own jb 187 (fun _:List (Fin cs.length)=>.func (.func fn) #[] caps)).from _).and ((ownFrom_below (jN _) (by rw [HZ2.out];omega)).and ((boxed_own Bs 152 (fun _:List (Fin cs.length)=>.slice p cs.length cap)).from _))))
  (fun _ _ _ _ _ hs _ _=>hs)
  ⟨⟨_,Y1.out,C2.out⟩,Y2.out,B2.out,Y3.out⟩
  (fun y=>{tmps:=List.toArray (.slice p cs.length cap::.pointer pb::.func (.func fn) #[] caps::undef::.pointer (some ⟨eb,0,none⟩)::.pointer (some ⟨jb,0,none⟩)::.pointer none::undef::.pointer (some ⟨qs y.val,0,none⟩)::.slice p cs.length cap::.func (.func 199) #[] #[.pointer (some ⟨Bs,0,none⟩)]::.int .i64 (y.val:Int)::.pointer (some ⟨qs y.val,0,none⟩)::undef::undef::undef::undef::undef:: []),defers:= []}) ?assign ?body ?done ?stop
 case assign=>
  intro l y W K hK
  gi_wp2
  exact hK
 case stop=>
  rintro D c pre W _ _ h _;exact h.elim
 case body=>
  rintro l pre y W ⟨⟨v,hv,hc⟩,hjb,hB,hBx⟩ hpl;have hvc:=hv.cell;have hvf:=hv.frozen;have hjc:=hjb.cell;have HC:=j0 (hj W hB cs[y] _ _ v (hcn _ (List.getElem_mem _)) ((HH2.out y.val cs[y] (List.getElem?_eq_getElem y.isLt)).up hB) hc);have H:=j0 (And.intro hv (And.intro hjb (And.intro hB hBx)));clear hv hc hjb hB hBx
  gi_wp2_with fail
  refine⟨trivial,?_⟩;refine(CallsIn.inRound l (callsIn_wide.2 HC.out)).mono ?_;rintro e W3 ⟨v3,rfl,hc3,hb3⟩;obtain⟨hv,hjb,hB,hBx⟩:=H.out;have g3:=qC none hb3;have hv3:=hv.kept g3 (by simp);have hvc3:=hv3.cell;have hvf3:=hv3.frozen;obtain⟨p3,rfl⟩:=hc3.ptr;have HC3:=j0 hc3;have HB3:=j0 hb3;have HG3:=j0 g3;have HV3:=j0 hv3;clear hvc hvf hjc hc3 hb3 hv hjb hB hBx hv3 g3
  gi_wp2_with fail
  obtain⟨hv,hjb,hB,hBx⟩:=H.out;have s4:=grownBy_setCell' W3 eb (.pointer p3);have jb3:=(hjb.kept HG3.out (by simp)).kept s4 (fun e=>Z3 (hjb.kept HG3.out (by simp)) HV3.out (by decide) (Option.some.inj e));have bx3:=(hBx.kept HG3.out (by simp)).kept s4 (fun e=>hz5 (Option.some.inj e).symm);have bw3:Below w.heap.size w W3:=hB.trans (HB3.out.mono hB.size);refine⟨(KeepsFrom.of_grownBy HG3.out (fun j e=>by cases e)).trans ((KeepsOthers.setCell _ _ _).from _),⟨(show _=_ from bx3).trans (show _=_ from hBx).symm,?_⟩,⟨_,HV3.out.set _,?_⟩,jb3,bw3.setCell (p:=⟨eb,0,none⟩) (by show _<=eb;rw [HEB.out];exact jN _) _,bx3⟩
  ·have hcl:cb<W.heap.size:=Nat.lt_of_lt_of_le (hcbn (by omega)) hB.size;exact(s4.block cb (Nat.lt_of_lt_of_le hcl HB3.out.size) (fun e=>hz6 (by omega) (Option.some.inj e).symm)).trans (HB3.out.block cb hcl)
  ·rw [List.map_append,List.foldl_append];exact HC3.out.kept s4 (fun r e=>by cases e;exact⟨_,HV3.out,JT.box (by decide)⟩)
 case done=>
  rintro D ys W hD hys ⟨⟨v,hv,hc⟩,hjb,hB,hBx⟩ hK;have hvc:=hv.cell;rw [XP cs Fin.val j bh (fun x:Fin cs.length=>cs[x]) (fun x=>List.getElem?_eq_getElem x.isLt) ys hys] at hc;have H:=j0 (And.intro hc (And.intro hB hK));clear hv hc hjb hB hBx hK hys
  gi_wp2
  obtain⟨hc,hB,hK⟩:=H.out;refine⟨by simp,.inl ⟨_,_,rfl,run_takeDeferred hK,?_⟩⟩;exact⟨v,(results_tmp (t:=6) rfl _ _ _).trans rfl,v,rfl,hc.kept (grownBy_putObj' _ D (.deferred none)) (fun r e=>by cases e;exact⟨_,hK,.other rfl⟩),hB.grown (grownBy_putObj' _ D _) (Nat.le_trans (jN _) hB.size) (fun k e=>by cases e;have:=HZ2.out;omega)⟩
end
end
end Go.Proofs.YtnmalggmbeipaaaGreatDoor
namespace Go.Proofs.YtnmalggmbeipaaaGreatDoor
section
section
open Go Go.RowKit Go.Shelf
attribute [local go_sem ↓] Go.wp_at_zero Go.wp_at_succ
theorem Y4(y:Nat)(hy:y<=1000000)(w:World):Calls Tryz.prog 160 #[.int .u64 1,.int .u64 (y:Int)] w fun e w'=>e=.returned (.tuple #[.int .u64 0,.int .u64 (y:Int)])/\w'=w:=by
 have M:=j0 (Un 1 y (by omega) (by omega) w);rw [Nat.one_mul,Nat.div_eq_of_lt (by omega),Nat.mod_eq_of_lt (by omega)] at M
 go_enter Tryz.func160,Tryz.ntmps160
 go_wp2_with fail
 refine M.out.mono ?_;rintro e w' ⟨rfl,hw⟩;obtain rfl:w=w':=hw.symm;clear M
 go_wp2_with fail
 go_ret2
 exact⟨rfl,rfl⟩
theorem Tryz.infoNdQ:(Tryz.prog.info? 45).map (fun i=>(i.zero,i.size,i.bytes))=some (some (.pointer none),1,8):=by kernel_rfl
theorem Tryz.sizeNdP:(Tryz.prog.info? 45).map (·.size)=some 1:=by kernel_rfl
theorem mk_nodes(n:Nat)(hn:n<=1000000)(w:World):(Instr.makeSlice 182 (.int .i64 (n:Int)) (.int .i64 (n:Int))).run Tryz.prog w=.ok (.slice (some ⟨w.heap.size,0,none⟩) n n) (w.alloc (.cells (List.replicate n (.pointer none)).toArray 45)):=by
 obtain⟨i0,hi,hz0,hz1,hz2⟩:=info_parts Tryz.infoNdQ;have h:=run_make (P:=Tryz.prog) w 182 45 i0 _ Tryz.underlying182 hi hz0 .i64 .i64 (n:Int) (n:Int) (by omega) (by omega) (by rw [hz2];omega) (by omega)
 have e:madeCells (Value.pointer none).cells (n*1)=(List.replicate n (Value.pointer none)).toArray:=by
  apply Array.toList_inj.1;rw [Nat.mul_one]
  show(madeCells #[.pointer none] n).toList=_
  rw [toList_madeCells_one]
 rw [Nat.mul_one] at e;rw [Int.toNat_natCast,hz1,Nat.mul_one,e] at h;exact h
theorem Qc(k m n:Nat)(u z:Value)(h:k+m<=n):splice (List.replicate k u++List.replicate (n-k) z) k (List.replicate m u)=List.replicate (k+m) u++List.replicate (n-(k+m)) z:=by
 unfold splice;rw [List.take_left' (by simp),List.length_replicate,List.drop_append,List.length_replicate,List.drop_of_length_le (by simp),List.nil_append,List.drop_replicate,<-List.append_assoc,List.replicate_append_replicate];congr 2;omega
theorem ZD{m j:Nat}{u v:Value}(h:(List.replicate m u)[j]? =some v):j<m/\v=u:=by
 rw [List.getElem?_replicate] at h
 split at h
 ·exact⟨by assumption,(Option.some.inj h).symm⟩
 ·cases h
theorem Xb{w:World}{M k n:Nat}{u z:Value}{t:TypeId}(h:w.heap[M]? =some (.cells (List.replicate k u++List.replicate (n-k) z).toArray t (0,0)))(j:Nat)(hj:j<k):w.cell? ⟨M,j,none⟩=some u:=by
 have:=jC h j;rw [this];simp [List.getElem?_append,hj]
theorem rep_src{w:World}{M k n m:Nat}{u z:Value}{t:TypeId}(h:w.heap[M]? =some (.cells (List.replicate k u++List.replicate (n-k) z).toArray t (0,0)))(hm:m<=k):∀j v,(List.replicate m u)[j]? =some v->w.cell? ((⟨M,0,none⟩:Addr).add j)=some v:=by
 intro j v hj;obtain⟨h1,rfl⟩:=ZD hj;have e:(⟨M,0,none⟩:Addr).add j=⟨M,j,none⟩:=by unfold Addr.add;split<;>simp_all
 rw [e];exact Xb h j (by omega)
theorem rep_fit{k n m:Nat}{u z:Value}(h:k+m<=n):k+(List.replicate m u).length<=(List.replicate k u++List.replicate (n-k) z).length:=by
 simp;omega
theorem rep_one{m:Nat}{u:Value}(h:u.oneCell'=true):∀v∈List.replicate m u,v.oneCell'=true:=fun v hv=>by rw [(List.mem_replicate.1 hv).2];exact h
theorem rep_min{k n m:Nat}{u:Value}(h:m=min k (n-k)):(List.replicate m u).length=Nat.min k (n-k):=by rw [List.length_replicate,h]
theorem XS(c q cap n:Nat)(w:World)(hn:n<=1000)(hc:w.cell? ⟨c,0,none⟩=some (.pointer (some ⟨q,0,none⟩)))(hcl:c<w.heap.size):
  Calls Tryz.prog 200 #[.slice (some ⟨c,0,none⟩) 1 cap,.int .i64 (n:Int)] w fun e w'=>e=.returned (.slice (some ⟨w.heap.size,0,none⟩) n n)/\Below w.heap.size w w'/\w.heap.size<w'.heap.size/\∀j,j<n->w'.cell? ⟨w.heap.size,j,none⟩=some (.pointer (some ⟨q,0,none⟩)):=by
 have BM:=j0 (Y4 n (by omega) w);have hmk:=mk_nodes n (by omega) w;obtain⟨u,hu⟩:∃u:Value,u=.pointer (some ⟨q,0,none⟩):=⟨_,rfl⟩;rw [<-hu] at hc ⊢;have HU1:Hid (u.oneCell'=true):=j0 (by rw [hu];rfl);obtain⟨w1,hw1⟩:∃X,X=w.alloc (.cells (List.replicate n (.pointer none)).toArray 45):=⟨_,rfl⟩;rw [<-hw1] at hmk;have HM1:Hid (w1.heap[w.heap.size]? =some (.cells (List.replicate n (.pointer none)).toArray 45 (0,0))):=j0 (by rw [hw1];exact j1 w _);have HB1:Hid (Below w.heap.size w w1):=j0 (by rw [hw1];exact j3 w _);have HC1:Hid (w1.cell? ⟨c,0,none⟩=some u):=j0 ((HB1.out.cell (p:=⟨c,0,none⟩) hcl).trans hc);have d1:decide ((n:Int)<0)=false:=jF (by omega);have d2:decide ((9223372036854775807:Int)<(n:Int))=false:=jF (by omega);have hm1:Hid (min 1 n=if n=0 then 0 else 1):=j0 (by split<;>omega);clear hw1 hu hc
 go_enter Tryz.func200,Tryz.ntmps200
 go_wp2_with fail
 refine BM.out.mono ?_;rintro e wx ⟨rfl,hwx⟩;obtain rfl:w=wx:=hwx.symm;clear BM;have HMB:Hid (n<=1000):=j0 hn
 go_wp2_with ((with_reducible show wpList _ _ _ _ _ _);(refine wpList_copy_splice rfl (.tmp 31) (.tmp 32) 182 182 rfl 45 Tryz.underlying182 Tryz.sizeNdP (some ⟨w.heap.size,0,none⟩) (some ⟨c,0,none⟩) n n 1 cap rfl rfl w.heap.size 0 (List.replicate n (.pointer none)) 45 HM1.out (List.replicate (min 1 n) u) (List.length_replicate ..) (fun _=>⟨rfl,_,rfl,fun j v hj=>by obtain⟨h1,rfl⟩:=ZD hj;obtain rfl:j=0:=(by omega);exact HC1.out⟩) (by rw [List.length_replicate,List.length_replicate,Nat.zero_add];exact Nat.min_le_right _ _) (fun v hv=>by rw [(List.mem_replicate.1 hv).2];exact HU1.out) w.heap.size w HB1.out (jN _) ?_;intro w2 hm2 hb2))
 have HM2:Hid (w2.heap[w.heap.size]? =some (.cells (List.replicate (min 1 n) u++List.replicate (n-min 1 n) (Value.pointer none)).toArray 45 (0,0))):=j0 (by
  have h:=hm2.out;have e:=Qc 0 (min 1 n) n u (Value.pointer none) (by omega);rw [List.replicate_zero,List.nil_append,Nat.sub_zero,Nat.zero_add] at e;rw [e] at h
  exact h)
 have HB2:=j0 hb2;clear hm2 hb2 HM1 HB1 HC1;have HL2:Hid (min 1 n<=n/\(0<n->1<=min 1 n)):=j0 ⟨Nat.min_le_right _ _,fun h=>by omega⟩;generalize min 1 n=k0 at*;clear hm1 hmk
 go_loopw [8] (fun kv wr=>∃k:Nat,k<=n/\kv=.int .i64 (k:Int)/\Hid (0<n->1<=k)/\Hid (wr.heap[w.heap.size]? =some (.cells (List.replicate k u++List.replicate (n-k) (Value.pointer none)).toArray 45 (0,0)))/\Hid (Below w.heap.size w wr)) (fun kv _=>n-(intOf kv).toNat)
 case atStart=>exact⟨k0,HL2.out.1,rfl,j0 HL2.out.2,HM2,HB2⟩
 case round=>
  obtain⟨k,hk,rfl,HK,HM,HB⟩:=hrel
  by_cases hlt:k<n
  ·have hk1:=HK.out (by omega);obtain⟨m,hm⟩:∃m,m=min k (n-k):=⟨_,rfl⟩;have hm1:1<=m:=by omega
   have hm2:k+m<=n:=by omega
   have HMM:=j0 hm;have HS:=j0 (Qc k m n u (Value.pointer none) hm2);have hne:¬n=k:=by omega
   have HD:Hid (wr.drew.heap[w.heap.size]? =some (.cells (List.replicate k u++List.replicate (n-k) (Value.pointer none)).toArray 45 (0,0))):=j0 HM.out;have HBD:Hid (Below w.heap.size w wr.drew):=j0 (HB.out.drew);have HL1:=j0 (rep_min (u:=u) hm);have HSR:=j0 (rep_src HD.out (show m<=k by omega));have HFI:=j0 (rep_fit (u:=u) (z:=Value.pointer none) hm2);have HON:=j0 (rep_one (m:=m) HU1.out);clear hm hk1
   go_wp2_with fail
   go_region_law (first|(refine step_copy_splice rfl (.tmp 41) (.tmp 44) 182 182 rfl 45 Tryz.underlying182 Tryz.sizeNdP (some ⟨w.heap.size,k,none⟩) (some ⟨w.heap.size,0,none⟩) (n-k) (n-k) k n (by simp [Act.eval,Act.put]) (by simp [Act.eval,Act.put]) w.heap.size k _ 45 HD.out (List.replicate m u) HL1.out (fun _=>⟨rfl,_,rfl,HSR.out⟩) HFI.out HON.out w.heap.size w HBD.out (jN _) ?_;intro w2 hx2 hb2)|fail)
   all_goals
    have hwr:IntKind.i64.wrap ((k:Int)+(m:Int))=((k+m:Nat):Int):=by rw [IntKind.wrap_i64];omega
    have HX2:=j0 hx2.out;have HB2':=j0 hb2;rw [HS.out] at HX2;rw [hwr];clear hwr hx2 hb2;simp only [Act.put]
    go_simp
    go_roundw
    case rel=>(repeat apply Exists.intro);refine⟨?_,rfl⟩;exact⟨k+m,hm2,by go_num,j0 (fun _=>by omega),HX2,HB2'⟩
    case measure=>simp [intOf];omega
  ·obtain rfl:k=n:=by omega
   go_wp2_with fail
   go_ret
   exact⟨rfl,HB.out,jS HM.out,fun j hj=>Xb HM.out j hj⟩
end
end
end Go.Proofs.YtnmalggmbeipaaaGreatDoor
