/- A part of the proof. -/
import Derived.Test.YtnmalggmbeipaaaGreatDoorRfL
import Derived.Test.YtnmalggmbeipaaaGreatDoorTc
set_option maxRecDepth 100000
set_option maxHeartbeats 16000000
namespace Go.Proofs.YtnmalggmbeipaaaGreatDoor
section
open Go Go.RowKit
attribute [local go_sem ↓] Go.wp_at_zero Go.wp_at_succ
attribute [local go_sem] qX
theorem Tryz.infoRTok:(Tryz.prog.info? 176).map (fun i=>(i.zero,i.size,i.bytes))=some (some (.agg #[.int .i64 0,.int .i64 0,.int .i64 0,.int .u64 0,.int .u64 0,.int .u64 0,.int .u64 0,.int .i64 0,.int .i64 0,.bool false]),10,80):=by kernel_rfl
def RTGrow(B:Nat)(l:List (jp×Nat×Nat))(v:Value)(w:World):Prop:=w.ownsRow B 176 10 v l.length (zT l)
theorem RTGrow.start(B:Nat)(w:World):RTGrow B [] (.slice none 0 0) w:=⟨rfl,.inl ⟨rfl,rfl⟩⟩
theorem RTGrow.below{B:Nat}{l:List (jp×Nat×Nat)}{v:Value}{w w1:World}(h:RTGrow B l v w)(hb:Below w.heap.size w w1):RTGrow B l v w1:=vX h hb
theorem RTGrow.at{B:Nat}{l:List (jp×Nat×Nat)}{v:Value}{w:World}(h:RTGrow B l v w):qK w v l:=by
 rcases h.2 with ⟨rfl,h2⟩|⟨g,cap,cur,rfl,hb,hh,hcap,hmax,hcs,htake⟩
 ·refine⟨none,0,by rw [h2],fun i x hi=> ?_⟩;rw [List.length_eq_zero_iff.1 h2] at hi;simp at hi
 ·refine⟨_,cap,rfl,fun i x hi=>⟨g,rfl,(Array.getElem?_eq_some_iff.1 hh).1,fun o u hu=> ?_⟩⟩;have hox:=Uv l i o x u hi hu;rw [jC hh,<-Array.getElem?_toList];rw [<-htake] at hox;obtain⟨hl,_⟩:=List.getElem?_eq_some_iff.1 hox;rw [List.getElem?_take_of_lt (by rw [List.length_take] at hl;omega)] at hox;exact hox
theorem rfin3{r:List (jp×Nat×Nat)×Int×Nat}{l:List (jp×Nat×Nat)}{c:Int}{j:Nat}{n:Int}{v:Value}{w w':World}(h:r=(l,c,j))(hn:xy (l,c,j)=n)(hg:RTGrow w.heap.size l v w')(hb:Below w.heap.size w w'):
  ∃u,Ending.returned (.tuple #[v,.int .i64 n,.int .i64 c])=.returned (.tuple #[u,.int .i64 (xy r),.int .i64 r.2.1])/\RTGrow w.heap.size r.1 u w'/\Below w.heap.size w w':=by
 subst h;subst hn;exact⟨v,rfl,hg,hb⟩
structure ScS(w:World)(b j:Nat)(c:Int)(listed:Array Bool)(X:World):Prop where
 en:je X b (j:Int) c
 bel:Below w.heap.size w X
theorem ScS.same{w:World}{b j:Nat}{c:Int}{listed listed':Array Bool}{X:World}(h:ScS w b j c listed X):ScS w b j c listed' X:=⟨h.en,h.bel⟩
theorem je.grownBy_{w w':World}{b:Nat}{x y:Int}{row:Option Nat}(h:je w b x y)(hg:w.grownBy w' row)(hne:row≠some b):je w' b x y:=h.same (hg.block b h.lt (fun e=>hne e.symm)) hg.size
def YF(b j:Nat)(c:Int):Nat->Value
 |0=>.pointer (some ⟨b,0,none⟩)
 |1=>.int .i64 (j:Int)
 |2=>.pointer (some ⟨b,1,none⟩)
 |3=>.int .i64 c
 |4=>.slice none 0 0
 |5=>.int .i64 (j:Int)
 |6=>.int .i64 c
 |_=>undef
def Y8:Nat->List (Nat×Nat)
 |5=> [(23,2)]
 |6=> [(25,4)]
 |_=> []
theorem Kv(s:ByteArray)(hs:s.size<=1048576)(w:World):
  Calls Tryz.prog 51 #[.string s] w fun e w'=>∃v,e=.returned (.tuple #[v,.int .i64 (xy (jm s)),.int .i64 (jm s).2.1])/\RTGrow w.heap.size (jm s).1 v w'/\Below w.heap.size w w':=by
 have ONE:=j0 (fun k (hk:k<s.size) W=>YO s k hk (by omega) W);obtain⟨i0,hif,hy0,hy1,hy2⟩:=info_parts Tryz.infoRTok
 go_enter Tryz.func51,Tryz.ntmps51
 go_wp2_with fail
 go_loopg [5,6] s.size (fun n v at_ wr=>∃(k:Nat) (l:List (jp×Nat×Nat)),k+n=s.size/\at_=.int .i64 (k:Int)/\Hid (ScanAt s l k)/\l.length<=k/\Hid (RTGrow w.heap.size l v wr)/\Hid (Below w.heap.size w wr))
 case atStart=>exact⟨0,[],by omega,rfl,j0 (ScanAt.start s),by simp,j0 (RTGrow.start _ _),j0 (Below.refl _ _)⟩
 case round=>
  obtain⟨k,l,hkn,rfl,HSA,hll,HG,HB⟩:=hrel
  by_cases hk:k<s.size
  ·have dk:decide (k<s.size)=true:=jT hk;have TKk:=j0 (ONE.out k hk);have hjle:=(kQ hk).le;have hjon:=(kQ hk).on;have HST:=j0 (fun he=>HSA.out.step hk he);have HBD:=j0 (fun he=>HSA.out.bad hk he);have herr:=(kQ hk).err;obtain⟨r,hr⟩:∃r,r=jd s k:=⟨_,rfl⟩;rw [<-hr] at TKk hjle hjon HST HBD herr;clear hr;obtain⟨t0,c,j⟩:=r;have TKk:Hid (∀W,Calls Tryz.prog 94 #[.string s,.int .i64 (k:Int)] W fun e w'=>OneOut (t0,c,j) (k:Int) e/\Below W.heap.size W w'):=TKk;have hjle:j<=s.size:=hjle
   go_wp2_with fail
   refine(TKk.out _).mono ?_;rintro e w2 ⟨⟨t,he,ht⟩,hb2⟩;dsimp only at he ht;subst he;have HG2:=j0 ((HG.out.below hb2).below (kw _ (xg t (k:Int)) (vU j c)));have h2:=HB.out.trans (hb2.mono HB.out.size);have HB2:=j0 (h2.trans ((kw w2 (xg t (k:Int)) (vU j c)).mono h2.size));have HT2:Hid (((w2.alloc (xg t (k:Int))).alloc (vU j c)).heap[w2.heap.size]? =some (xg t (k:Int))):=j0 (j4 (j3 _ _) (j1 _ _))
   have HE2:Hid (je ((w2.alloc (xg t (k:Int))).alloc (vU j c)) (w2.heap.size+1) (j:Int) c):=j0 (by
    have h:=j1 (w2.alloc (xg t (k:Int))) (vU j c);rw [World.size_alloc] at h
    exact je.of h)
   have hb7:w.heap.size<=w2.heap.size:=h2.size;have HNB:=j0 (fun g hg=>(kl (HG.out.below hb2) (g:=g) hg).2);clear hb2 h2 HG HB TKk
   go_upto_region 5 with fail
   obtain⟨W,hW⟩:∃W,W=(w2.alloc (xg t (k:Int))).alloc (vU j c):=⟨_,rfl⟩;rw [<-hW] at HG2 HB2 HT2 HE2;change Code.wp _ _ _ _ ((w2.alloc (xg t (k:Int))).alloc (vU j c));rw [<-hW];clear hW;generalize w2.heap.size=b7 at*;obtain⟨⟨z0,z1⟩,⟨l0,l1⟩,hz⟩:=HE2.out;have hne:¬b7=b7+1:=by omega
   rcases XN herr with rfl|⟨hc0,hc1,hc2⟩
   ·have HS2:=j0 (HST.out rfl);have hjk:k<j:=hjon rfl;obtain rfl:t=t0:=ht rfl;clear HST HBD herr hjon HSA ht;obtain⟨⟨v0,v1,v2,v3,v4,v5,v6,v7,v8,v9⟩,hv⟩:=jX HT2.out;obtain⟨⟨y0,y1,y2,y3,y4,y5,y6,y7,y8,y9⟩,hy⟩:=ji HT2.out;have HB3:Hid (Below w.heap.size w (W.setCell ⟨b7,2,none⟩ (.int .i64 (j:Int)))):=j0 (HB2.out.setCell (by simpa using hb7) _);have HT3:Hid ((W.setCell ⟨b7,2,none⟩ (.int .i64 (j:Int))).heap[b7]? =some (.cells #[.int .i64 t.kind,.int .i64 (k:Int),.int .i64 (j:Int),.int .u64 t.set.a,.int .u64 t.set.b,.int .u64 t.set.c,.int .u64 t.set.d,.int .i64 t.lo,.int .i64 t.hi,.bool t.lazy] 176)):=j0 ((Joins.block_setCell (i:=2) HT2.out (.int .i64 (j:Int))).trans (by simp));have HE3:Hid (je (W.setCell ⟨b7,2,none⟩ (.int .i64 (j:Int))) (b7+1) (j:Int) 0):=j0 (HE2.out.same (kh _ (by omega)) (by simp [World.setCell]));have HG3:=j0 (qp HG2.out (js (ql W (some b7)) (p:=⟨b7,2,none⟩) (.inl rfl) (.int .i64 (j:Int))) (fun g hg e=>by have:=HNB.out g hg;injection e with e;omega))
    go_upto_region 8 with fail
    obtain⟨W3,hW3⟩:∃X,X=W.setCell ⟨b7,2,none⟩ (.int .i64 (j:Int)):=⟨_,rfl⟩;rw [<-hW3] at HB3 HT3 HG3 HE3;change Code.wp _ _ _ _ (W.setCell ⟨b7,2,none⟩ (.int .i64 (j:Int)));rw [<-hW3];clear hW3 v0 v1 v2 v3 v4 v5 v6 v7 v8 v9 hv y0 y1 y2 y3 y4 y5 y6 y7 y8 y9 hy z0 z1 l0 l1 hz HT2 HG2 HB2 HE2;have y0:=jC HT3.out 0;have y1:=jC HT3.out 1;have y2:=jC HT3.out 2;have y3:=jC HT3.out 3;have y4:=jC HT3.out 4;have y5:=jC HT3.out 5;have y6:=jC HT3.out 6;have y7:=jC HT3.out 7;have y8:=jC HT3.out 8;have y9:=jC HT3.out 9;have hy:=jS HT3.out;have hsz3:=HB3.out.size;simp only [Reg.la,Reg.lb,Reg.lc] at y0 y1 y2 y3 y4 y5 y6 y7 y8 y9
    go_wp2_with (at_builtin;go_must (refine wpList_append_own_at _ rfl (.tmp 29) (.tmp 31) 110 rfl w.heap.size 176 i0 (.agg #[.int .i64 0,.int .i64 0,.int .i64 0,.int .u64 0,.int .u64 0,.int .u64 0,.int .u64 0,.int .i64 0,.int .i64 0,.bool false]) 10 80 Tryz.underlying110 hif hy0 hy1 hy2 rfl (by decide) _ l.length (zT l) rfl (kt HG3.out _) ⟨_,0,none⟩ 1 1 (tcells (t,k,j)) rfl rfl (KK _ _ t k j _ (by simp)) (Ub (t,k,j)) (by unfold maxLen;omega) (by omega) (by simp;omega) ?_;intro v4 w4 ho hg4 _ _;have HE4:=j0 ((HE3.out.below (j3 _ _)).grownBy_ hg4 (fun e=>Nat.lt_irrefl _ (Nat.lt_trans (HNB.out _ e) (Nat.lt_succ_self _))));obtain⟨⟨z0,z1⟩,⟨l0,l1⟩,hz⟩:=HE4.out))
    have hro:∀b,Value.ownBlock _=some b->w.heap.size<=b:=fun b hb=>(kl HG3.out hb).1
    have HG4:Hid (RTGrow w.heap.size (l++ [(t,k,j)]) v4 w4):=j0 (by unfold RTGrow;rw [List.length_append,QH];exact ho);have HB4:=j0 ((HB3.out.alloc hsz3 _).grown hg4 (by simp;omega) (fun b hb=>hro _ hb))
    go_roundg (s.size-j)
    case measure=>omega
    case rel=>exact⟨j,l++ [(t,k,j)],by omega,rfl,HS2,by simp;omega,HG4,HB4⟩
   ·have HSC:=j0 (HBD.out hc0);clear HST HBD herr hjon HSA ht ONE
    go_wp2_with fail
    refine Reg.wp_region_S (YF (b7+1) j c) (ScS w (b7+1) j c) [0,1,2,3,4,5,6] (by rfl) (by kernel_rfl) (by kernel_rfl) ?_ ?_ ?_
    ·exact⟨⟨HE2.out.at_,HE2.out.free,HE2.out.lt⟩,⟨HB2.out.os,HB2.out.tape,HB2.out.output,HB2.out.size,HB2.out.block⟩⟩
    ·refine Reg.oS (fun listed A X hI hin hun hall HS=> ?_) ?_
     ·have e8:=hI.wo 8 rfl;clear hI hall
      go_simp
      exact⟨rfl,HS.same⟩
     refine Reg.oS (fun listed A X hI hin hun hall HS=> ?_) ?_
     ·have e22:A.tmps[22]? =some (.pointer (some ⟨b7+1,0,none⟩)):=hI.v hall 0 22;obtain⟨⟨z0,z1⟩,⟨l0,l1⟩,hz⟩:=HS.en;clear hI hall
      go_simp
      exact⟨rfl,HS.same⟩
     refine Reg.oS (fun listed A X hI hin hun hall HS=> ?_) ?_
     ·have e8:=hI.wo 8 rfl;clear hI hall
      go_simp
      exact⟨rfl,HS.same⟩
     refine Reg.oS (fun listed A X hI hin hun hall HS=> ?_) ?_
     ·have e24:A.tmps[24]? =some (.pointer (some ⟨b7+1,1,none⟩)):=hI.v hall 2 24;obtain⟨⟨z0,z1⟩,⟨l0,l1⟩,hz⟩:=HS.en;clear hI hall
      go_simp
      exact⟨rfl,HS.same⟩
     refine Reg.oS (fun listed A X hI hin hun hall HS=> ?_) ?_
     ·clear hI hall
      go_simp
      exact⟨rfl,HS.same⟩
     iterate 2
      refine Reg.oS (fun listed A X hI hin hun hall HS=> ?_) ?_
      ·have E:=hI.tf hun hall Y8;simp only [Reg.TF,Y8,YF] at E;clear hI hall
       go_simp
       exact⟨rfl,HS.same⟩
     trivial
    ·intro W9 hS;have HB9:=j0 hS.bel;clear hS;simp [Reg.finalTmps,Reg.dstAt,Reg.valOf,YF]
     go_wp2_with fail
     refine bodyPost_ret (v:=.tuple #[.slice none 0 0,.int .i64 (j:Int),.int .i64 c]) (by simp [results,Tryz.results51,go_sem]) rfl (rfin3 HSC.out (by unfold xy;rw [if_neg hc0]) (RTGrow.start _ _) HB9.out)
  ·have dk:decide (k<s.size)=false:=jF hk;have hke:s.size<=k:=by omega
   have HSC:=j0 (HSA.out.done hke);clear HSA ONE;obtain⟨p4,cap4,rfl⟩:=Uj HG.out
   go_wp2_with fail
   refine bodyPost_ret (v:=.tuple #[.slice p4 l.length cap4,.int .i64 (l.length:Int),.int .i64 0]) (by simp [results,Tryz.results51,go_sem]) rfl (rfin3 HSC.out rfl HG.out HB.out)
theorem eq4rf(a b c d x y z u:Int)(w:World):(Op.equalIn 9999 29 (.agg #[.int .u64 a,.int .u64 b,.int .u64 c,.int .u64 d]) (.agg #[.int .u64 x,.int .u64 y,.int .u64 z,.int .u64 u])).run Tryz.prog w=.ok (a==x && b==y && c==z && d==u) w:=by
 have u3:=Tryz.underlying27;have a3:=Tryz.isAgg27;have z3:=Tryz.sizeOf27;rw [show(9999:Nat)=9998+1 from rfl,Op.equalIn];simp only [Sem.run_bind,run_underlying Tryz.underlying29,Result.andThen_ok];simp only [Std.Legacy.Range.forIn_eq_forIn_range',Std.Legacy.Range.size,Nat.sub_zero,Nat.add_sub_cancel,Nat.div_one,List.range'_succ,List.range'_zero,List.forIn_cons,List.forIn_nil]
 go_simp
 by_cases h1:a=x<;>by_cases h2:b=y<;>by_cases h3:c=z<;>by_cases h4:d=u<;>simp [h1,h2,h3,h4]
attribute [local go_sem] eq4rf
end
end Go.Proofs.YtnmalggmbeipaaaGreatDoor
