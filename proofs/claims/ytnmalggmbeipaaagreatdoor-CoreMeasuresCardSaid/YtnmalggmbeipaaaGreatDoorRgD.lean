/- A part of the proof. -/
import Derived.Test.YtnmalggmbeipaaaGreatDoorRgB
import Derived.Test.YtnmalggmbeipaaaGreatDoorRgP
set_option maxRecDepth 100000
set_option maxHeartbeats 16000000
namespace Go.Proofs.YtnmalggmbeipaaaGreatDoor
section
open Go Go.RowKit
attribute [local go_sem ↓] Go.wp_at_zero Go.wp_at_succ
attribute [local go_sem] qX
theorem Tryz.infoRNd:(Tryz.prog.info? 50).map (fun i=>(i.zero,i.size,i.bytes))=some (some (.agg #[.int .i64 0,.int .u64 0,.int .u64 0,.int .u64 0,.int .u64 0,.int .i64 0,.int .i64 0,.bool false,.slice none 0 0,.int .i64 0,.int .i64 0]),11,104):=by kernel_rfl
theorem qZ(w:World)(ty:TypeId)(k':Int)(s':W4)(lo' hi':Int)(z':Bool)(a' b':Nat)(l':List Tr)(lv:Value)(g:Nat)(hg:g=w.heap.size):∀j u,(Jm (.mk k' s' lo' hi' z' a' b' l') lv)[j]? =some u->(w.alloc (.cells #[.int .i64 k',.int .u64 s'.a,.int .u64 s'.b,.int .u64 s'.c,.int .u64 s'.d,.int .i64 lo',.int .i64 hi',.bool z',lv,.int .i64 (a':Int),.int .i64 (b':Int)] ty)).cell? ((⟨g,0,none⟩:Addr).add j)=some u:=by
 subst hg;intro j u hj;have h:=j1 w (.cells #[.int .i64 k',.int .u64 s'.a,.int .u64 s'.b,.int .u64 s'.c,.int .u64 s'.d,.int .i64 lo',.int .i64 hi',.bool z',lv,.int .i64 (a':Int),.int .i64 (b':Int)] ty);have hc:=jC h j;have e:((⟨w.heap.size,0,none⟩:Addr).add j)=⟨w.heap.size,j,none⟩:=by simp [Addr.add];intro h;exact h.symm
 rw [e,hc,<-hj];simp [Jm]
def Ye(t:Tr)(w w':World)(e:Ending):Prop:=∃lv,e=.returned (rnV t lv)/\kU w' (fun b=>w.heap.size<=b) t lv/\Below w.heap.size w w'
def xu(L:jq)(size j i d at_:Nat)(l2:List Tr):Prop:=(i<=j/\Cuts L size (cu L j i d at_) l2/\cg L j i d=true)\/(i=j+1/\l2= [])
theorem xu.opens{L:jq}{size j i d at_:Nat}{l2:List Tr}(h:xu L size j i d at_ l2)(hi:i<j)(hk:jR L i=1\/jR L i=2):xu L size j (i+1) (d+1) at_ l2:=by
 rcases h with ⟨h1,h2,h3⟩|⟨h1,_⟩
 ·rw [zU hi,if_pos hk] at h2;rw [JA hi,if_pos hk] at h3;exact .inl ⟨by omega,h2,h3⟩
 ·omega
theorem xu.shut{L:jq}{size j i d at_:Nat}{l2:List Tr}(h:xu L size j i d at_ l2)(hi:i<j)(hk:jR L i=3):∃d1,d=d1+1/\xu L size j (i+1) d1 at_ l2:=by
 rcases h with ⟨h1,h2,h3⟩|⟨h1,_⟩
 ·rw [zU hi,if_neg (by omega),if_pos hk] at h2;rw [JA hi,if_neg (by omega),if_pos hk,Bool.and_eq_true,decide_eq_true_iff] at h3;obtain⟨d1,rfl⟩:∃d1,d=d1+1:=⟨d-1,by omega⟩;exact⟨d1,rfl,.inl ⟨by omega,h2,h3.2⟩⟩
 ·omega
theorem xu.bar{L:jq}{size j i at_:Nat}{l2:List Tr}(h:xu L size j i 0 at_ l2)(hi:i<j)(hk:jR L i=4):∃u r,l2=u::r/\vd L size at_ i u/\xr u≠5/\xu L size j (i+1) 0 (i+1) r:=by
 rcases h with ⟨h1,h2,h3⟩|⟨h1,_⟩
 ·rw [zU hi,if_neg (by omega),if_neg (by omega),if_pos ⟨hk,rfl⟩] at h2;rw [JA hi,if_neg (by omega),if_neg (by omega)] at h3
  cases h2 with
  |cons _ _ u _ r hk h hc=>exact⟨u,r,rfl,h,hk,.inl ⟨by omega,hc,h3⟩⟩
 ·omega
theorem xu.other{L:jq}{size j i d at_:Nat}{l2:List Tr}(h:xu L size j i d at_ l2)(hi:i<j)(h1:jR L i≠1)(h2:jR L i≠2)(h3:jR L i≠3)(h4:jR L i≠4\/d≠0):xu L size j (i+1) d at_ l2:=by
 rcases h with ⟨g1,g2,g3⟩|⟨g1,_⟩
 ·rw [zU hi,if_neg (by omega),if_neg h3,if_neg (by omega)] at g2;rw [JA hi,if_neg (by omega),if_neg h3] at g3;exact .inl ⟨by omega,g2,g3⟩
 ·omega
theorem xu.last{L:jq}{size j d at_:Nat}{l2:List Tr}(h:xu L size j j d at_ l2):∃u,l2= [u]/\vd L size at_ j u/\xr u≠5:=by
 rcases h with ⟨g1,g2,g3⟩|⟨g1,_⟩
 ·rw [Zm (jN _)] at g2
  cases g2 with
  |cons _ _ u _ r hk h hc=>cases hc;exact⟨u,rfl,h,hk⟩
 ·omega
theorem xu.done{L:jq}{size j d at_:Nat}{l2:List Tr}(h:xu L size j (j+1) d at_ l2):l2= []:=by
 rcases h with ⟨g1,_⟩|⟨_,g⟩
 ·omega
 ·exact g
def zX:Tr->List Tr
 | .mk k s lo hi z a b l=>if k=5 then l else [.mk k s lo hi z a b l]
theorem UG{t:Tr}(h:xr t≠5):zX t= [t]:=by
 cases t
 exact if_neg h
theorem xu.start{L:jq}{size i j:Nat}{t:Tr}(h:vd L size i j t):xu L size j i 0 i (zX t):=by
 refine .inl ⟨(qT t h).1,?_,cg_tree h⟩
 have one:xr t≠5->Cuts L size (cu L j i 0 i) (zX t):=fun hk=>by
  rw [cuts_one hk h,UG hk];exact .cons _ _ _ _ _ hk h .nil
 cases h with
 |alt _ _ l hl ha=>exact ZX ha
 |empty=>exact one (by show(0:Int)≠5;decide)
 |set=>exact one (by show(1:Int)≠5;decide)
 |group _ _ k u hk=>exact one (by show k≠5;omega)
 |cat=>exact one (by show(4:Int)≠5;decide)
 |rep=>exact one (by show(6:Int)≠5;decide)
theorem alt_form{L:jq}{size i j:Nat}{t:Tr}(h:vd L size i j t)(hk:xr t=5):∃l,t=.mk 5 j7 0 0 false (ki L size i) (ki L size j) l/\2<=l.length/\yc L size i j l:=by
 cases h with
 |alt _ _ l hl ha=>exact⟨l,rfl,hl,ha⟩
 |empty=>exact absurd hk (by show(0:Int)≠5;decide)
 |set=>exact absurd hk (by show(1:Int)≠5;decide)
 |group _ _ k u hk2=>exact absurd hk (by show k≠5;omega)
 |cat=>exact absurd hk (by show(4:Int)≠5;decide)
 |rep=>exact absurd hk (by show(6:Int)≠5;decide)
abbrev yX(w:World)(b:Nat)(x0 x1 x2 x3 x4 x5 x6 x7 x8 x9 x10:Value):World:=
 ((((((((((w.setCell ⟨b,0,none⟩ x0).setCell ⟨b,1,none⟩ x1).setCell ⟨b,2,none⟩ x2).setCell ⟨b,3,none⟩ x3).setCell ⟨b,4,none⟩ x4).setCell ⟨b,5,none⟩ x5).setCell ⟨b,6,none⟩ x6).setCell ⟨b,7,none⟩ x7).setCell ⟨b,8,none⟩ x8).setCell ⟨b,9,none⟩ x9).setCell ⟨b,10,none⟩ x10
theorem Kc{w:World}{b:Nat}{ty:TypeId}{y0 y1 y2 y3 y4 y5 y6 y7 y8 y9 y10:Value}(h:w.heap[b]? =some (.cells #[y0,y1,y2,y3,y4,y5,y6,y7,y8,y9,y10] ty))(x0 x1 x2 x3 x4 x5 x6 x7 x8 x9 x10:Value):
  (yX w b x0 x1 x2 x3 x4 x5 x6 x7 x8 x9 x10).heap[b]? =some (.cells #[x0,x1,x2,x3,x4,x5,x6,x7,x8,x9,x10] ty):=
 (Joins.block_setCell (i:=10) (Joins.block_setCell (i:=9) (Joins.block_setCell (i:=8) (Joins.block_setCell (i:=7) (Joins.block_setCell (i:=6) (Joins.block_setCell (i:=5) (Joins.block_setCell (i:=4) (Joins.block_setCell (i:=3) (Joins.block_setCell (i:=2) (Joins.block_setCell (i:=1) (Joins.block_setCell (i:=0) h x0) x1) x2) x3) x4) x5) x6) x7) x8) x9) x10).trans (by simp)
theorem vR(w:World)(b:Nat)(x0 x1 x2 x3 x4 x5 x6 x7 x8 x9 x10:Value):w.grownBy (yX w b x0 x1 x2 x3 x4 x5 x6 x7 x8 x9 x10) (some b):=
 js (js (js (js (js (js (js (js (js (js (js (ql w (some b)) (.inl rfl) _) (.inl rfl) _) (.inl rfl) _) (.inl rfl) _) (.inl rfl) _) (.inl rfl) _) (.inl rfl) _) (.inl rfl) _) (.inl rfl) _) (.inl rfl) _) (.inl rfl) _
theorem qV{w0 w:World}{b:Nat}(h:Below w0.heap.size w0 w)(hb:w0.heap.size<=b)(x0 x1 x2 x3 x4 x5 x6 x7 x8 x9 x10:Value):Below w0.heap.size w0 (yX w b x0 x1 x2 x3 x4 x5 x6 x7 x8 x9 x10):=
 ((((((((((h.setCell (p:=⟨b,0,none⟩) hb x0).setCell (p:=⟨b,1,none⟩) hb x1).setCell (p:=⟨b,2,none⟩) hb x2).setCell (p:=⟨b,3,none⟩) hb x3).setCell (p:=⟨b,4,none⟩) hb x4).setCell (p:=⟨b,5,none⟩) hb x5).setCell (p:=⟨b,6,none⟩) hb x6).setCell (p:=⟨b,7,none⟩) hb x7).setCell (p:=⟨b,8,none⟩) hb x8).setCell (p:=⟨b,9,none⟩) hb x9).setCell (p:=⟨b,10,none⟩) hb x10
def vk(g n n1 cap' a b:Nat):Nat->Value
 |0=>.slice (some ⟨g,0,none⟩) n cap'
 |1=>.slice (some ⟨g,0,none⟩) n cap'
 |2=>.pointer (some ⟨g,0,none⟩)
 |3=>.pointer (some ⟨g,9,none⟩)
 |4=>.int .i64 (a:Int)
 |5=>.slice (some ⟨g,0,none⟩) n cap'
 |6=>.slice (some ⟨g,0,none⟩) n cap'
 |7=>.int .i64 (n:Int)
 |8=>.int .i64 (n1:Int)
 |9=>.pointer (some ⟨g,n1*11,none⟩)
 |10=>.pointer (some ⟨g,n1*11+10,none⟩)
 |11=>.int .i64 (b:Int)
 |12=>.agg #[.int .i64 5,.int .u64 0,.int .u64 0,.int .u64 0,.int .u64 0,.int .i64 0,.int .i64 0,.bool false,(.slice (some ⟨g,0,none⟩) n cap'),.int .i64 (a:Int),.int .i64 (b:Int)]
 |13=>undef
 |_=>undef
def JJ:Nat->List (Nat×Nat)
 |0=> [(9,0)]
 |1=> [(9,0)]
 |5=> [(9,0)]
 |6=> [(9,0)]
 |7=> [(84,7)]
 |_=> []
theorem ralt_loop{L:jq}{v:Value}(size i j:Nat)(t:Tr)(hlen:L.length<=1048576)(hs:vd L size i j t)(w:World)(h:qK w v L)
  (HC:∀(u:Tr) (f z:Nat),u∈zX t->vd L size f z u->xr u≠5->∀W,qK W v L->Calls Tryz.prog 95 #[v,.int .i64 (f:Int),.int .i64 (z:Int),.int .i64 (size:Int)] W fun e w'=>Ye u W w' e):
  Calls Tryz.prog 53 #[v,.int .i64 (i:Int),.int .i64 (j:Int),.int .i64 (size:Int)] w fun e w'=>Ye t w w' e:=by
 obtain⟨p,cap,rfl⟩:=h.slice;have HA:=j0 h;have HCC:=j0 HC;have hjl:=(qT t hs).2;have hij:=(qT t hs).1;have HS:=j0 hs;have HI0:=j0 (xu.start hs);obtain⟨W0,hW0⟩:∃W0,W0=w.alloc (.cells #[.int .i64 0,.int .u64 0,.int .u64 0,.int .u64 0,.int .u64 0,.int .i64 0,.int .i64 0,.bool false,.slice none 0 0,.int .i64 0,.int .i64 0] 50):=⟨_,rfl⟩;have HB0:Hid (Below w.heap.size w W0):=j0 (by rw [hW0];exact j3 w _);have HK0:Hid (W0.heap[w.heap.size]? =some (.cells #[.int .i64 0,.int .u64 0,.int .u64 0,.int .u64 0,.int .u64 0,.int .i64 0,.int .i64 0,.bool false,.slice none 0 0,.int .i64 0,.int .i64 0] 50)):=j0 (by rw [hW0];exact j1 w _);have HE0:=j0 hW0;have HZ0:Hid (W0.heap.size=w.heap.size+1):=j0 (by rw [hW0,World.size_alloc]);obtain⟨i0,hif,hy0,hy1,hy2⟩:=info_parts Tryz.infoRNd;clear h hW0 HC hs
 go_enter Tryz.func53,Tryz.ntmps53
 go_wp2_with fail
 rw [<-HE0.out];clear HE0
 go_loopw [9,10,11,12] (fun pv dv av iv wr=>∃(k d at_:Nat) (l1 l2:List Tr) (us:List Value),k<=j+1/\d<=k/\at_<=j+1/\l1.length<=k/\dv=.int .i64 d/\av=.int .i64 at_/\iv=.int .i64 k/\Hid (zX t=l1++l2)/\Hid (xu L size j k d at_ l2)/\Hid (yd W0.heap.size l1 us pv wr)/\Hid (Below W0.heap.size W0 wr)) (fun _ _ _ iv _=>j+1-(intOf iv).toNat)
 case atStart=>exact⟨i,0,i,[],zX t,[],by omega,by omega,by omega,by simp,rfl,rfl,rfl,j0 rfl,HI0,j0 (yd.start _ _),j0 (Below.refl _ _)⟩
 case round=>
  obtain⟨k,d,at_,l1,l2,us,hk,hd,hat,hl1,rfl,rfl,rfl,HT,HI,HG,HB⟩:=hrel;have HBW:=j0 (HB0.out.trans (HB.out.mono HB0.out.size))
  by_cases hkj:k<=j
  ·by_cases hlt:k<j
   ·obtain⟨g,cap',hv,hg,c0,_⟩:=(HA.out.below HBW.out).get (i:=k) (by omega) size;injection hv with hv1 _ hv2;subst hv1 hv2;have X1:=j0 (HI.out.opens hlt);have X2:=j0 (HI.out.shut hlt);have X3:=j0 (HI.out.other hlt);have X4:Hid (d=0->jR L k=4->∃u r,l2=u::r/\vd L size at_ k u/\xr u≠5/\xu L size j (k+1) 0 (k+1) r):=j0 (by intro hd;subst hd;exact HI.out.bar hlt);generalize jR L k=kk at*;clear HI;have hne:((k:Int)==(j:Int))=false:=by simp;omega
    by_cases h1:kk=1
    ·subst h1;have HN:=j0 (X1.out (.inl rfl));clear X1 X2 X3 X4
     go_wp2_with fail
     go_roundw
     case rel=>exact⟨k+1,d+1,at_,l1,l2,us,by omega,by omega,by omega,by omega,by go_num,rfl,by go_num,HT,HN,HG,HB⟩
     case measure=>first|(simp [intOf];omega)|simp [intOf]
    by_cases h2:kk=2
    ·subst h2;have HN:=j0 (X1.out (.inr rfl));clear X1 X2 X3 X4 h1
     go_wp2_with fail
     go_roundw
     case rel=>exact⟨k+1,d+1,at_,l1,l2,us,by omega,by omega,by omega,by omega,by go_num,rfl,by go_num,HT,HN,HG,HB⟩
     case measure=>first|(simp [intOf];omega)|simp [intOf]
    by_cases h3:kk=3
    ·subst h3;obtain⟨d1,rfl,hn⟩:=X2.out rfl;have HN:=j0 hn;have e1:((d1+1:Nat):Int)-1=(d1:Int):=by omega
     clear X1 X2 X3 X4 h1 h2 hn
     go_wp2_with fail
     go_roundw
     case rel=>exact⟨k+1,d1,at_,l1,l2,us,by omega,by omega,by omega,by omega,by first|rfl|go_num,rfl,by go_num,HT,HN,HG,HB⟩
     case measure=>first|(simp [intOf];omega)|simp [intOf]
    by_cases h4:kk=4
    ·subst h4
     by_cases hd0:d=0
     ·subst hd0;obtain⟨u,r,hl2,hsp,hk5,hn⟩:=X4.out rfl rfl;subst hl2;have HN:=j0 hn;have HT2:Hid (zX t=(l1++ [u])++r):=j0 (by rw [HT.out,List.append_assoc];rfl);have HCU:=j0 (HCC.out u at_ k (by rw [HT.out];simp) hsp hk5 wr (HA.out.below HBW.out));clear X1 X2 X3 X4 h1 h2 h3 hn hsp hk5 HT;obtain⟨k',s',lo',hi',z',a',b',l'⟩:=u
      go_wp2_with fail
      refine HCU.out.mono ?_;rintro e w2 ⟨lv,he,hrn,hb⟩;obtain⟨pp,n',cp,rfl⟩:=hrn.slice;have he:e=.returned (.agg #[.int .i64 k',.int .u64 s'.a,.int .u64 s'.b,.int .u64 s'.c,.int .u64 s'.d,.int .i64 lo',.int .i64 hi',.bool z',(.slice pp n' cp),.int .i64 (a':Int),.int .i64 (b':Int)]):=he;subst he;have HG2:=j0 (HG.out.below hb);have HB2:=j0 (HB.out.trans (hb.mono HB.out.size));have HV:=j0 hrn;have hsz2:=HB2.out.size;have hszr:=HB.out.size;have HLO:=j0 (fun b hb=>(kl HG.out.own (g:=b) hb).2);clear hb hrn HG HB HCU
      go_wp2_with (at_builtin;go_must (refine wpList_append_own_at _ rfl (.tmp 62) (.tmp 68) 48 rfl W0.heap.size 50 i0 (.agg #[.int .i64 0,.int .u64 0,.int .u64 0,.int .u64 0,.int .u64 0,.int .i64 0,.int .i64 0,.bool false,.slice none 0 0,.int .i64 0,.int .i64 0]) 11 104 Tryz.underlying48 hif hy0 hy1 hy2 rfl (by decide) _ l1.length (rnRow l1 us) rfl (kt HG2.out.own _) ⟨_,0,none⟩ 1 1 (Jm (.mk k' s' lo' hi' z' a' b' l') (.slice pp n' cp)) rfl rfl (qZ _ _ k' s' lo' hi' z' a' b' l' _ _ (by simp)) (xz _ _ _ _) (by unfold maxLen;omega) (by omega) (by simp;omega) ?_;intro v4 w4 ho hg4 _ hat;have HG4:=j0 (HG2.out.add (lo:=wr.heap.size) HLO.out hszr HV.out ho hg4 hat);have HB4:=j0 ((HB2.out.alloc hsz2 _).grown hg4 (by simp;omega) (fun b hb=>(kl HG2.out.own hb).1));clear ho hg4 hat))
      clear HG2 HB2 HV HLO
      go_wp2_with fail
      go_roundw
      case rel=>exact⟨k+1,0,k+1,l1++ [.mk k' s' lo' hi' z' a' b' l'],r,us++ [_],by omega,by omega,by omega,by simp;omega,rfl,by go_num,by go_num,HT2,HN,HG4,HB4⟩
      case measure=>first|(simp [intOf];omega)|simp [intOf]
     ·have HN:=j0 (X3.out (by decide) (by decide) (by decide) (.inr hd0));have b1:((d:Int)==0)=false:=by simpa using hd0
      clear X1 X2 X3 X4 h1 h2 h3 hd0
      go_wp2_with fail
      go_roundw
      case rel=>exact⟨k+1,d,at_,l1,l2,us,by omega,by omega,by omega,by omega,rfl,rfl,by go_num,HT,HN,HG,HB⟩
      case measure=>first|(simp [intOf];omega)|simp [intOf]
    ·have HN:=j0 (X3.out h1 h2 h3 (.inl h4));have b1:((kk:Int)==1)=false:=by simpa using h1
     have b2:((kk:Int)==2)=false:=by simpa using h2
     have b3:((kk:Int)==3)=false:=by simpa using h3
     have b4:((kk:Int)==4)=false:=by simpa using h4
     clear X1 X2 X3 X4 h1 h2 h3 h4
     go_wp2_with fail
     go_roundw
     case rel=>exact⟨k+1,d,at_,l1,l2,us,by omega,by omega,by omega,by omega,rfl,rfl,by go_num,HT,HN,HG,HB⟩
     case measure=>first|(simp [intOf];omega)|simp [intOf]
   ·obtain rfl:k=j:=by omega
    obtain⟨u,hl2,hsp,hk5⟩:=HI.out.last;subst hl2;have HN:Hid (xu L size k (k+1) d (k+1) []):=j0 (.inr ⟨rfl,rfl⟩);have HT2:Hid (zX t=(l1++ [u])++ []):=j0 (by rw [HT.out,List.append_nil]);have HCU:=j0 (HCC.out u at_ k (by rw [HT.out];simp) hsp hk5 wr (HA.out.below HBW.out));clear hsp hk5 HT HI;obtain⟨k',s',lo',hi',z',a',b',l'⟩:=u
    go_wp2_with fail
    refine HCU.out.mono ?_;rintro e w2 ⟨lv,he,hrn,hb⟩;obtain⟨pp,n',cp,rfl⟩:=hrn.slice;have he:e=.returned (.agg #[.int .i64 k',.int .u64 s'.a,.int .u64 s'.b,.int .u64 s'.c,.int .u64 s'.d,.int .i64 lo',.int .i64 hi',.bool z',(.slice pp n' cp),.int .i64 (a':Int),.int .i64 (b':Int)]):=he;subst he;have HG2:=j0 (HG.out.below hb);have HB2:=j0 (HB.out.trans (hb.mono HB.out.size));have HV:=j0 hrn;have hsz2:=HB2.out.size;have hszr:=HB.out.size;have HLO:=j0 (fun b hb=>(kl HG.out.own (g:=b) hb).2);clear hb hrn HG HB HCU
    go_wp2_with (at_builtin;go_must (refine wpList_append_own_at _ rfl (.tmp 62) (.tmp 68) 48 rfl W0.heap.size 50 i0 (.agg #[.int .i64 0,.int .u64 0,.int .u64 0,.int .u64 0,.int .u64 0,.int .i64 0,.int .i64 0,.bool false,.slice none 0 0,.int .i64 0,.int .i64 0]) 11 104 Tryz.underlying48 hif hy0 hy1 hy2 rfl (by decide) _ l1.length (rnRow l1 us) rfl (kt HG2.out.own _) ⟨_,0,none⟩ 1 1 (Jm (.mk k' s' lo' hi' z' a' b' l') (.slice pp n' cp)) rfl rfl (qZ _ _ k' s' lo' hi' z' a' b' l' _ _ (by simp)) (xz _ _ _ _) (by unfold maxLen;omega) (by omega) (by simp;omega) ?_;intro v4 w4 ho hg4 _ hat;have HG4:=j0 (HG2.out.add (lo:=wr.heap.size) HLO.out hszr HV.out ho hg4 hat);have HB4:=j0 ((HB2.out.alloc hsz2 _).grown hg4 (by simp;omega) (fun b hb=>(kl HG2.out.own hb).1));clear ho hg4 hat))
    clear HG2 HB2 HV HLO
    go_wp2_with fail
    go_roundw
    case rel=>exact⟨k+1,d,k+1,l1++ [.mk k' s' lo' hi' z' a' b' l'],[],us++ [_],by omega,by omega,by omega,by simp;omega,rfl,by go_num,by go_num,HT2,HN,HG4,HB4⟩
    case measure=>first|(simp [intOf];omega)|simp [intOf]
  ·obtain rfl:k=j+1:=by omega
   have hl2:=HI.out.done;subst hl2;have HT1:zX t=l1:=HT.out.trans (List.append_nil _);have hbk:=(HB.out.block _ (jS HK0.out)).trans HK0.out;have HKR:=j0 hbk;have hszw:=HB0.out.size;have hszr:=HB.out.size;have hsz0:W0.heap.size=w.heap.size+1:=HZ0.out;have hbl:=jS hbk;clear HT HI
   by_cases h5:xr t=5
   ·obtain⟨l,ht,hl2,hA⟩:=alt_form HS.out h5;obtain rfl:l=l1:=by rw [<-HT1,ht];rfl
    subst ht;have hab:=ZA hA;obtain⟨n1,hn1⟩:∃n1,l.length=n1+1:=⟨l.length-1,by omega⟩;obtain⟨u0,hu0⟩:∃u,l[0]? =some u:=⟨_,List.getElem?_eq_getElem (by omega)⟩;obtain⟨u1,hu1⟩:∃u,l[n1]? =some u:=⟨_,List.getElem?_eq_getElem (by omega)⟩;have ha:=hab.1 u0 (by rw [List.head?_eq_getElem?];exact hu0);have hb:=hab.2 u1 (by rw [List.getLast?_eq_getElem?,hn1];exact hu1);have HR:=HG.out.at 5 j7 0 0 false (ki L size i) (ki L size j);obtain⟨k',s',lo',hi',z',a',b',l'⟩:=u0;obtain⟨g,cap',lu,hv,hg,_,_,_,_,_,_,_,c9,_⟩:=HR.get hu0;obtain⟨k2,s2,lo2,hi2,z2,a2,b2,l2'⟩:=u1;obtain⟨g2,cap2,lu2,hv2,hg2,_,_,_,_,_,_,_,_,c10⟩:=HR.get hu1;rw [hv] at hv2;injection hv2 with hv3 _ hv4;injection hv3 with hv3;injection hv3 with hv3;subst hv3 hv4 hv;have ha:a'=ki L size i:=ha;have hb:b2=ki L size j:=hb;subst ha hb;have HRN:=j0 HR;have HC9:=j0 c9;have HC10:=j0 c10;have HGL:=j0 hg;generalize hn:l.length=n at*;have hne:((n:Int)==1)=false:=by simp;omega
    have HNN:Hid ((n:Int)-1=(n1:Int)/\n1<n/\n<=1048577):=j0 ⟨by omega,by omega,by omega⟩;clear hab hu0 hu1 HR c9 c10 hg hg2 hn hn1 hl1 hl2 HCC hA h5 HT1 hbk hlen
    go_wp2_with fail
    clear hne;obtain⟨a,ha⟩:∃a,a=ki L size i:=⟨_,rfl⟩;obtain⟨b,hb⟩:∃b,b=ki L size j:=⟨_,rfl⟩;rw [<-ha] at HC9;rw [<-hb] at HC10;have HAB:=j0 (And.intro ha hb);clear ha hb;refine Reg.wp_region_C (vk g n n1 cap' a b) (Reg.GenC 13 (fun X=>Below wr.heap.size wr X) (fun X=>∃X0,Below wr.heap.size wr X0/\X=yX X0 w.heap.size (.int .i64 5) (.int .u64 0) (.int .u64 0) (.int .u64 0) (.int .u64 0) (.int .i64 0) (.int .i64 0) (.bool false) (.slice (some ⟨g,0,none⟩) n cap') (.int .i64 (a:Int)) (.int .i64 (b:Int)))) [0,1,2,3,4,5,6,7,8,9,10,11,12,13] (by rfl) (by kernel_rfl) (by kernel_rfl) ?_ ?_ ?_
    ·exact Reg.GenC.start _ _ (Below.drew (Below.refl _ _))
    ·iterate 2
      refine Reg.oC (fun listed A X hI hcl hin hun hall HS=> ?_) ?_
      ·have E:=hI.tf hun hall JJ;simp only [Reg.TF,JJ,Reg.la,Reg.lb,Reg.lc] at E;clear hI hall hcl
       go_simp
       first|rfl|exact⟨rfl,HS.up (by decide)⟩|(refine⟨?_,HS.up (by decide)⟩;simp [vk])
     refine Reg.oC (fun listed A X hI hcl hin hun hall HS=> ?_) ?_
     ·have e79:A.tmps[79]? =some (.slice (some ⟨g,0,none⟩) n cap'):=hI.v hall 1 79;have hX:=HS.at hcl (by kernel_rfl) hun;obtain⟨n0,n2,n3⟩:=HNN.out;have n5:0<n:=by omega
      clear n0;clear hI hall hcl;have HX:=j0 hX;clear hX
      go_simp
      first|rfl|exact⟨rfl,HS.up (by decide)⟩|(refine⟨?_,HS.up (by decide)⟩;simp [vk])
     refine Reg.oC (fun listed A X hI hcl hin hun hall HS=> ?_) ?_
     ·have e80:A.tmps[80]? =some (.pointer (some ⟨g,0,none⟩)):=hI.v hall 2 80;clear hI hall hcl
      go_simp
      first|rfl|exact⟨rfl,HS.up (by decide)⟩|(refine⟨?_,HS.up (by decide)⟩;simp [vk])
     refine Reg.oC (fun listed A X hI hcl hin hun hall HS=> ?_) ?_
     ·have e81:A.tmps[81]? =some (.pointer (some ⟨g,9,none⟩)):=hI.v hall 3 81;have hX:=HS.at hcl (by kernel_rfl) hun;have f9:=(hX.cell (p:=⟨g,0*11+9,none⟩) HGL.out).trans HC9.out;simp only [Nat.zero_mul,Nat.zero_add] at f9;clear hI hall hcl;have HX:=j0 hX;clear hX
      go_simp
      first|rfl|exact⟨rfl,HS.up (by decide)⟩|(refine⟨?_,HS.up (by decide)⟩;simp [vk])
     iterate 3
      refine Reg.oC (fun listed A X hI hcl hin hun hall HS=> ?_) ?_
      ·have E:=hI.tf hun hall JJ;simp only [Reg.TF,JJ,vk,Reg.la,Reg.lb,Reg.lc] at E;clear hI hall hcl
       go_simp
       first|rfl|exact⟨rfl,HS.up (by decide)⟩|(refine⟨?_,HS.up (by decide)⟩;simp [vk])
     refine Reg.oC (fun listed A X hI hcl hin hun hall HS=> ?_) ?_
     ·have e85:A.tmps[85]? =some (.int .i64 (n:Int)):=hI.v hall 7 85;have hX:=HS.at hcl (by kernel_rfl) hun;obtain⟨n0,n2,n3⟩:=HNN.out;have wn:IntKind.i64.wrap (n1:Int)=(n1:Int):=by simp [IntKind.wrap,IntKind.signed,IntKind.bits];omega
      clear hI hall hcl;have HX:=j0 hX;clear hX
      go_simp
      first|rfl|exact⟨rfl,HS.up (by decide)⟩|(refine⟨?_,HS.up (by decide)⟩;simp [vk])
     refine Reg.oC (fun listed A X hI hcl hin hun hall HS=> ?_) ?_
     ·have e83:A.tmps[83]? =some (.slice (some ⟨g,0,none⟩) n cap'):=hI.v hall 5 83;have e86:A.tmps[86]? =some (.int .i64 (n1:Int)):=hI.v hall 8 86;have hX:=HS.at hcl (by kernel_rfl) hun;obtain⟨n0,n2,n3⟩:=HNN.out;clear hI hall hcl;have HX:=j0 hX;clear hX
      go_simp
      first|rfl|exact⟨rfl,HS.up (by decide)⟩|(refine⟨?_,HS.up (by decide)⟩;simp [vk])
     refine Reg.oC (fun listed A X hI hcl hin hun hall HS=> ?_) ?_
     ·have e87:A.tmps[87]? =some (.pointer (some ⟨g,n1*11,none⟩)):=hI.v hall 9 87;clear hI hall hcl
      go_simp
      first|rfl|exact⟨rfl,HS.up (by decide)⟩|(refine⟨?_,HS.up (by decide)⟩;simp [vk])
     refine Reg.oC (fun listed A X hI hcl hin hun hall HS=> ?_) ?_
     ·have e88:A.tmps[88]? =some (.pointer (some ⟨g,n1*11+10,none⟩)):=hI.v hall 10 88;have hX:=HS.at hcl (by kernel_rfl) hun;have f10:=(hX.cell (p:=⟨g,n1*11+10,none⟩) HGL.out).trans HC10.out;clear hI hall hcl;have HX:=j0 hX;clear hX
      go_simp
      first|rfl|exact⟨rfl,HS.up (by decide)⟩|(refine⟨?_,HS.up (by decide)⟩;simp [vk])
     refine Reg.oC (fun listed A X hI hcl hin hun hall HS=> ?_) ?_
     ·have e78:A.tmps[78]? =some (.slice (some ⟨g,0,none⟩) n cap'):=hI.v hall 0 78;have e82:A.tmps[82]? =some (.int .i64 (a:Int)):=hI.v hall 4 82;have e89:A.tmps[89]? =some (.int .i64 (b:Int)):=hI.v hall 11 89;clear hI hall hcl
      go_simp
      first|rfl|exact⟨rfl,HS.up (by decide)⟩|(refine⟨?_,HS.up (by decide)⟩;simp [vk])
     refine Reg.oC (fun listed A X hI hcl hin hun hall HS=> ?_) ?_
     ·have e8:=hI.wo 8 rfl;have e90:A.tmps[90]? =some (.agg #[.int .i64 5,.int .u64 0,.int .u64 0,.int .u64 0,.int .u64 0,.int .i64 0,.int .i64 0,.bool false,(.slice (some ⟨g,0,none⟩) n cap'),.int .i64 (a:Int),.int .i64 (b:Int)]):=hI.v hall 12 90;have hX:=HS.ahead (by simpa using hun);have hbX:=(hX.block _ (jS HKR.out)).trans HKR.out;have q0:=jC hbX 0;have q1:=jC hbX 1;have q2:=jC hbX 2;have q3:=jC hbX 3;have q4:=jC hbX 4;have q5:=jC hbX 5;have q6:=jC hbX 6;have q7:=jC hbX 7;have q8:=jC hbX 8;have q9:=jC hbX 9;have q10:=jC hbX 10;have z0:=jU hbX 0;have z1:=jU hbX 1;have z2:=jU hbX 2;have z3:=jU hbX 3;have z4:=jU hbX 4;have z5:=jU hbX 5;have z6:=jU hbX 6;have z7:=jU hbX 7;have z8:=jU hbX 8;have z9:=jU hbX 9;have z10:=jU hbX 10;simp only [Reg.la,Reg.lb,Reg.lc] at q0 q1 q2 q3 q4 q5 q6 q7 q8 q9 q10;clear hbX;clear hI hall hcl;have HX:=j0 hX;clear hX
      go_simp
      exact⟨rfl,Reg.GenC.put hin ⟨X,HX.out,rfl⟩⟩
     trivial
    ·intro X hS;have hR:=hS.done (by rfl);clear hS;simp [Reg.finalTmps,Reg.dstAt,Reg.valOf,vk];obtain⟨X0,hX0,hX1⟩:=hR;have hX2:=Kc ((hX0.block _ (jS HKR.out)).trans HKR.out) (.int .i64 5) (.int .u64 0) (.int .u64 0) (.int .u64 0) (.int .u64 0) (.int .i64 0) (.int .i64 0) (.bool false) (.slice (some ⟨g,0,none⟩) n cap') (.int .i64 (a:Int)) (.int .i64 (b:Int));have HX3:=j0 (qV (HBW.out.trans (hX0.mono HBW.out.size)) (jN w.heap.size) (.int .i64 5) (.int .u64 0) (.int .u64 0) (.int .u64 0) (.int .u64 0) (.int .i64 0) (.int .i64 0) (.bool false) (.slice (some ⟨g,0,none⟩) n cap') (.int .i64 (a:Int)) (.int .i64 (b:Int)));have HX4:=j0 (((HRN.out.up hX0).keep (vR X0 w.heap.size (.int .i64 5) (.int .u64 0) (.int .u64 0) (.int .u64 0) (.int .u64 0) (.int .i64 0) (.int .i64 0) (.bool false) (.slice (some ⟨g,0,none⟩) n cap') (.int .i64 (a:Int)) (.int .i64 (b:Int))) (fun b hb e=>by injection e with e;omega)).mono (A':=fun b=>w.heap.size<=b) (fun b _ hb=>by omega));rw [<-hX1] at hX2 HX3 HX4;have q0:=jC hX2 0;have q1:=jC hX2 1;have q2:=jC hX2 2;have q3:=jC hX2 3;have q4:=jC hX2 4;have q5:=jC hX2 5;have q6:=jC hX2 6;have q7:=jC hX2 7;have q8:=jC hX2 8;have q9:=jC hX2 9;have q10:=jC hX2 10;simp only [Reg.la,Reg.lb,Reg.lc] at q0 q1 q2 q3 q4 q5 q6 q7 q8 q9 q10;clear hX2 hX1 hX0 HKR
     go_wp2_with fail
     refine bodyPost_ret (v:=.agg #[.int .i64 5,.int .u64 0,.int .u64 0,.int .u64 0,.int .u64 0,.int .i64 0,.int .i64 0,.bool false,.slice (some ⟨g,0,none⟩) n cap',.int .i64 (a:Int),.int .i64 (b:Int)]) (by simp [results,Tryz.results53,go_sem,q0,q1,q2,q3,q4,q5,q6,q7,q8,q9,q10]) rfl ⟨_,?_,HX4.out,HX3.out⟩;rw [HAB.out.1,HAB.out.2];rfl
   ·have hl1':l1= [t]:=by rw [<-HT1,UG h5]
    subst hl1';have HR:=HG.out.at 5 j7 0 0 false 0 0;obtain⟨k',s',lo',hi',z',a',b',l'⟩:=t;obtain⟨g,cap',lu,hv,hg,hru,c0,⟨c1,c2,c3,c4⟩,c5,c6,c7,c8,c9,c10⟩:=HR.get (i:=0) rfl;simp only [Nat.zero_mul,Nat.zero_add] at c0 c1 c2 c3 c4 c5 c6 c7 c8 c9 c10;subst hv;obtain⟨pp,n',cp,rfl⟩:=hru.slice;have HRU:=j0 hru;have HBF:=j0 HBW;have q0:=jC hbk 0;have z0:=jU hbk 0;have q1:=jC hbk 1;have z1:=jU hbk 1;have q2:=jC hbk 2;have z2:=jU hbk 2;have q3:=jC hbk 3;have z3:=jU hbk 3;have q4:=jC hbk 4;have z4:=jU hbk 4;have q5:=jC hbk 5;have z5:=jU hbk 5;have q6:=jC hbk 6;have z6:=jU hbk 6;have q7:=jC hbk 7;have z7:=jU hbk 7;have q8:=jC hbk 8;have z8:=jU hbk 8;have q9:=jC hbk 9;have z9:=jU hbk 9;have q10:=jC hbk 10;have z10:=jU hbk 10;simp only [Reg.la,Reg.lb,Reg.lc] at q0 q1 q2 q3 q4 q5 q6 q7 q8 q9 q10;clear hbk hru HR HG HS HT1 h5 HCC
    go_wp2_with fail
    refine bodyPost_ret (v:=.agg #[.int .i64 k',.int .u64 s'.a,.int .u64 s'.b,.int .u64 s'.c,.int .u64 s'.d,.int .i64 lo',.int .i64 hi',.bool z',(.slice pp n' cp),.int .i64 (a':Int),.int .i64 (b':Int)]) (by simp [results,Tryz.results53,go_sem,q0,q1,q2,q3,q4,q5,q6,q7,q8,q9,q10]) rfl ⟨.slice pp n' cp,rfl,?_,?_⟩
    ·exact((HRU.out).keep (vR wr w.heap.size _ _ _ _ _ _ _ _ _ _ _) (fun b hb e=>by injection e with e;omega)).mono (fun b _ hb=>by omega)
    ·exact qV HBW.out (jN _) _ _ _ _ _ _ _ _ _ _ _
end
end Go.Proofs.YtnmalggmbeipaaaGreatDoor
