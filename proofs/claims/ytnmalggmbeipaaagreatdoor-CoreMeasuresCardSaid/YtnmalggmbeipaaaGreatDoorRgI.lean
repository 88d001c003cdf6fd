/- A part of the proof. -/
import Derived.Test.YtnmalggmbeipaaaGreatDoorRgF
import Derived.Test.YtnmalggmbeipaaaGreatDoorRgC
import Derived.Test.YtnmalggmbeipaaaGreatDoorRfS
set_option maxRecDepth 100000
set_option maxHeartbeats 16000000
namespace Go.Proofs.YtnmalggmbeipaaaGreatDoor
section
section
open Go Go.RowKit
theorem alts_size{u t:Tr}(h:u∈zX t):jc u<=jc t:=by
 obtain⟨k,s,lo,hi,z,a,b,l⟩:=t;have h:u∈(if k=5 then l else [.mk k s lo hi z a b l]):=h
 split at h
 ·have h1:=jZ h;rw [jc];omega
 ·obtain rfl:u=.mk k s lo hi z a b l:=by simpa using h
  exact jN _
theorem Ug{L:jq}{v:Value}(size:Nat)(hlen:L.length<=1048576)(hadj:AdjT L size):∀n:Nat,
  (∀(t:Tr) (i j:Nat),jc t<=n->vd L size i j t->xr t≠5->∀w,qK w v L->Calls Tryz.prog 95 #[v,.int .i64 (i:Int),.int .i64 (j:Int),.int .i64 (size:Int)] w fun e w'=>Ye t w w' e)/\
  (∀(t:Tr) (i j:Nat),jc t<=n->vd L size i j t->∀w,qK w v L->Calls Tryz.prog 53 #[v,.int .i64 (i:Int),.int .i64 (j:Int),.int .i64 (size:Int)] w fun e w'=>Ye t w w' e)
 |0=>⟨fun t i j h=>by have:=vg t;omega,fun t i j h=>by have:=vg t;omega⟩
 |n+1=>by
  have ih:=Ug (v:=v) size hlen hadj n
  have hc:∀(t:Tr) (i j:Nat),jc t<=n+1->vd L size i j t->xr t≠5->∀w,qK w v L->Calls Tryz.prog 95 #[v,.int .i64 (i:Int),.int .i64 (j:Int),.int .i64 (size:Int)] w fun e w'=>Ye t w w' e:=
   fun t i j ht hs hk w h=>rcat_loop size i j t hlen hadj hs hk w h (fun u f z hu hs' W hW=>ih.2 u f z (by omega) hs' W hW)
  exact⟨hc,fun t i j ht hs w h=>ralt_loop size i j t hlen hs w h (fun u f z hu hs' hk W hW=>hc u f z (by have:=alts_size hu;omega) hs' hk W hW)⟩
end
end
end Go.Proofs.YtnmalggmbeipaaaGreatDoor
namespace Go.Proofs.YtnmalggmbeipaaaGreatDoor
section
section
open Go Go.RowKit
attribute [local go_sem ↓] Go.wp_at_zero Go.wp_at_succ
attribute [local go_sem] qX
theorem scan_S(s:ByteArray):∀x∈mt (jm s).1,UI x:=by
 intro x hx;obtain⟨y,hy,rfl⟩:=List.mem_map.1 hx;exact V1 _ _ y hy
theorem YY{s:ByteArray}{t:Tr}(h:qd s=(0,0,some t)):(jm s).2.1=0/\fr (jm s).1 s.size 0 0 false=none/\vd (jm s).1 s.size 0 (jm s).1.length t:=by
 unfold qd at h
 by_cases h1:(jm s).2.1=0
 ·rw [if_neg (by simpa using h1)] at h
  by_cases h2:(ku (jm s).1 s.size).1=0
  ·rw [if_neg (by simpa using h2)] at h;simp only [Prod.mk.injEq,true_and] at h
   rcases Q9 (scan_S s) s.size with ⟨j,u,hw,hf⟩|⟨e,j,hw,he,hf⟩
   ·rw [hw] at h;simp only [Option.some.injEq] at h;subst h;obtain⟨rfl,hs⟩:=whole_spn hw;exact⟨h1,hf,hs⟩
   ·rw [hw] at h2;exact absurd h2 he
  ·rw [if_pos h2] at h;simp at h
 ·rw [if_pos h1] at h;simp at h
theorem Xm{s:ByteArray}{e a:Int}(he:e≠0)(h:qd s=(e,a,none)):((jm s).2.1=e/\xy (jm s)=a)\/((jm s).2.1=0/\∃p:Nat,a=(p:Int)/\fr (jm s).1 s.size 0 0 false=some (p,e)):=by
 unfold qd at h
 by_cases h1:(jm s).2.1=0
 ·rw [if_neg (by simpa using h1)] at h
  by_cases h2:(ku (jm s).1 s.size).1=0
  ·rw [if_neg (by simpa using h2)] at h;simp only [Prod.mk.injEq] at h;exact absurd h.1.symm he
  ·rw [if_pos h2] at h;simp only [Prod.mk.injEq,and_true] at h;obtain⟨h3,h4⟩:=h
   rcases Q9 (scan_S s) s.size with ⟨j,u,hw,hf⟩|⟨e',j,hw,he',hf⟩
   ·rw [hw] at h2;exact absurd rfl h2
   ·rw [hw] at h3 h4;simp only at h3 h4;subst h3;exact .inr ⟨h1,_,h4.symm,hf⟩
 ·rw [if_pos h1] at h;simp only [Prod.mk.injEq,and_true] at h;exact .inl h
theorem Uh(s:ByteArray)(t:Tr)(hs:s.size<=1048576)(h:qd s=(0,0,some t))(w:World):
  Calls Tryz.prog 18 #[.string s] w fun e w'=>∃lv,e=.returned (.tuple #[rnV t lv,.agg #[.int .i64 0,.int .i64 0]])/\kU w' (fun b=>w.heap.size<=b) t lv/\Below w.heap.size w w':=by
 have SC:=j0 (fun W=>Kv s hs W);obtain⟨W0,hW0⟩:∃X,X=(w.alloc (.cells #[.int .i64 0,.int .u64 0,.int .u64 0,.int .u64 0,.int .u64 0,.int .i64 0,.int .i64 0,.bool false,.slice none 0 0,.int .i64 0,.int .i64 0] 50)).alloc (.cells #[.int .i64 0,.int .i64 0] 52):=⟨_,rfl⟩;have HB0:Hid (Below w.heap.size w W0):=j0 (by rw [hW0];exact kw w _ _);have HN0:Hid (W0.heap[w.heap.size]? =some (.cells #[.int .i64 0,.int .u64 0,.int .u64 0,.int .u64 0,.int .u64 0,.int .i64 0,.int .i64 0,.bool false,.slice none 0 0,.int .i64 0,.int .i64 0] 50)):=j0 (by rw [hW0];exact j4 (j3 _ _) (j1 w (.cells #[.int .i64 0,.int .u64 0,.int .u64 0,.int .u64 0,.int .u64 0,.int .i64 0,.int .i64 0,.bool false,.slice none 0 0,.int .i64 0,.int .i64 0] 50)));have HF0:Hid (W0.heap[w.heap.size+1]? =some (.cells #[.int .i64 0,.int .i64 0] 52)):=j0 (by have h:=j1 (w.alloc (.cells #[.int .i64 0,.int .u64 0,.int .u64 0,.int .u64 0,.int .u64 0,.int .i64 0,.int .i64 0,.bool false,.slice none 0 0,.int .i64 0,.int .i64 0] 50)) (.cells #[.int .i64 0,.int .i64 0] 52);rw [World.size_alloc] at h;rw [hW0];exact h);have HSZ:Hid (W0.heap.size=w.heap.size+2):=j0 (by rw [hW0,World.size_alloc,World.size_alloc]);have HE0:=j0 hW0;clear hW0;obtain⟨h1,h2,h3⟩:=YY h
 have hlen:(jm s).1.length<=1048576:=by
  have h:=zA s;omega
 have hadj:AdjT (jm s).1 s.size:=scan_adj h1;rw [h1] at SC;generalize xy (jm s)=m at*;generalize hL:(jm s).1=L at*;have HFI:=j0 (fun(v:Value) (X:World) (hX:qK X v L)=>Qo s.size hlen X hX);rw [h2] at HFI;have HAL:Hid (∀(v:Value) (X:World),qK X v L->Calls Tryz.prog 53 #[v,.int .i64 0,.int .i64 (L.length:Int),.int .i64 (s.size:Int)] X fun e w'=>Ye t X w' e):=j0 (fun v X hX=>(Ug s.size hlen hadj (jc t)).2 t 0 L.length (jN _) h3 X hX);have hss:(s.size:Int)<=1048576:=by omega
 clear h h1 h2 h3 hadj hL
 go_enter Tryz.func18,Tryz.ntmps18
 go_upto_region 1 with fail
 rw [<-HE0.out];clear HE0
 go_wp2_with fail
 refine(SC.out W0).mono ?_;rintro e w1 ⟨v,rfl,hg,hb⟩;have HA1:=j0 hg.at;obtain⟨p,cap,rfl⟩:=HA1.out.slice;have HB1:=j0 (HB0.out.trans (hb.mono HB0.out.size));have HB01:=j0 hb;clear hg hb SC
 go_wp2_with fail
 refine(HFI.out _ w1 HA1.out).mono ?_;rintro e w2 ⟨rfl,hb⟩;simp only [frV];have HA2:=j0 (HA1.out.below hb);have HB2:=j0 (HB1.out.trans (hb.mono HB1.out.size));have HB02:=j0 (HB01.out.trans (hb.mono HB01.out.size));clear hb HA1 HB1 HB01 HFI;obtain⟨W3,hW3⟩:∃X,X=w2.alloc (.cells #[.int .i64 0,.int .i64 0] 52):=⟨_,rfl⟩;have HF3:Hid (W3.heap[w2.heap.size]? =some (.cells #[.int .i64 0,.int .i64 0] 52)):=j0 (by rw [hW3];exact j1 w2 _);have b3:=j3 w2 (.cells #[.int .i64 0,.int .i64 0] 52);rw [<-hW3] at b3;have HA3:=j0 (HA2.out.below b3);have HB3:=j0 (HB2.out.trans (b3.mono HB2.out.size));have HB03:=j0 (HB02.out.trans (b3.mono HB02.out.size));clear HA2 HB2 HB02 b3
 go_upto_region 5 with fail
 change Code.wp _ _ _ _ (w2.alloc (.cells #[.int .i64 0,.int .i64 0] 52));rw [<-hW3];clear hW3;have p0:=jC HF3.out 0;have p1:=jC HF3.out 1;have hlf:=jS HF3.out;simp only [Reg.la,Reg.lb,Reg.lc] at p0 p1
 go_wp2_with fail
 refine(HAL.out _ W3 HA3.out).mono ?_;clear p0 p1 hlf HF3;rintro e w4 ⟨lv,he,hrn,hb⟩;obtain⟨k',s',lo',hi',z',a',b',l'⟩:=t;obtain⟨pp,n',cp,rfl⟩:=hrn.slice;have he:e=.returned (.agg #[.int .i64 k',.int .u64 s'.a,.int .u64 s'.b,.int .u64 s'.c,.int .u64 s'.d,.int .i64 lo',.int .i64 hi',.bool z',(.slice pp n' cp),.int .i64 (a':Int),.int .i64 (b':Int)]):=he;subst he;have HB4:=j0 (HB3.out.trans (hb.mono HB3.out.size));have HB04:=j0 (HB03.out.trans (hb.mono HB03.out.size));have HRN:=j0 hrn;have hz3:=HSZ.out;have hz4:=HB03.out.size;clear hb hrn HAL HA3;have hn:=(HB04.out.block _ (jS HN0.out)).trans HN0.out;have hf:=(HB04.out.block _ (jS HF0.out)).trans HF0.out;have q0:=jC hn 0;have q1:=jC hn 1;have q2:=jC hn 2;have q3:=jC hn 3;have q4:=jC hn 4;have q5:=jC hn 5;have q6:=jC hn 6;have q7:=jC hn 7;have q8:=jC hn 8;have q9:=jC hn 9;have q10:=jC hn 10;have z0:=jU hn 0;have z1:=jU hn 1;have z2:=jU hn 2;have z3:=jU hn 3;have z4:=jU hn 4;have z5:=jU hn 5;have z6:=jU hn 6;have z7:=jU hn 7;have z8:=jU hn 8;have z9:=jU hn 9;have z10:=jU hn 10;have p0:=jC hf 0;have p1:=jC hf 1;have y0:=jU hf 0;have y1:=jU hf 1;have hln:=jS hn;have hlf:=jS hf;simp only [Reg.la,Reg.lb,Reg.lc] at q0 q1 q2 q3 q4 q5 q6 q7 q8 q9 q10 p0 p1;clear hn hf
 go_wp2_with fail
 refine bodyPost_ret (v:=.tuple #[.agg #[.int .i64 k',.int .u64 s'.a,.int .u64 s'.b,.int .u64 s'.c,.int .u64 s'.d,.int .i64 lo',.int .i64 hi',.bool z',(.slice pp n' cp),.int .i64 (a':Int),.int .i64 (b':Int)],.agg #[.int .i64 0,.int .i64 0]]) (by simp [results,Tryz.results18,go_sem,q0,q1,q2,q3,q4,q5,q6,q7,q8,q9,q10,p0,p1]) rfl ⟨.slice pp n' cp,rfl,?_,?_⟩
 ·refine kU.mono (A:=fun b=>W3.heap.size<=b) ((HRN.out.keep (vR w4 w.heap.size _ _ _ _ _ _ _ _ _ _ _) (fun b hb e=>by injection e with e;omega)).keep (js (js (ql _ (some (w.heap.size+1))) (.inl rfl) _) (.inl rfl) _) (fun b hb e=>by injection e with e;omega)) (fun b _ hb=>by omega)
 ·exact((qV HB4.out (jN _) _ _ _ _ _ _ _ _ _ _ _).setCell (p:=⟨w.heap.size+1,0,none⟩) (Nat.le_succ _) _).setCell (p:=⟨w.heap.size+1,1,none⟩) (Nat.le_succ _) _
theorem YG(s:ByteArray)(c a:Int)(hc:c≠0)(hs:s.size<=1048576)(h:qd s=(c,a,none))(w:World):
  Calls Tryz.prog 18 #[.string s] w fun e w'=>e=.returned (.tuple #[.agg #[.int .i64 0,.int .u64 0,.int .u64 0,.int .u64 0,.int .u64 0,.int .i64 0,.int .i64 0,.bool false,.slice none 0 0,.int .i64 0,.int .i64 0],.agg #[.int .i64 a,.int .i64 c]])/\Below w.heap.size w w':=by
 have SC:=j0 (fun W=>Kv s hs W);obtain⟨W0,hW0⟩:∃X,X=(w.alloc (.cells #[.int .i64 0,.int .u64 0,.int .u64 0,.int .u64 0,.int .u64 0,.int .i64 0,.int .i64 0,.bool false,.slice none 0 0,.int .i64 0,.int .i64 0] 50)).alloc (.cells #[.int .i64 0,.int .i64 0] 52):=⟨_,rfl⟩;have HB0:Hid (Below w.heap.size w W0):=j0 (by rw [hW0];exact kw w _ _);have HN0:Hid (W0.heap[w.heap.size]? =some (.cells #[.int .i64 0,.int .u64 0,.int .u64 0,.int .u64 0,.int .u64 0,.int .i64 0,.int .i64 0,.bool false,.slice none 0 0,.int .i64 0,.int .i64 0] 50)):=j0 (by rw [hW0];exact j4 (j3 _ _) (j1 w (.cells #[.int .i64 0,.int .u64 0,.int .u64 0,.int .u64 0,.int .u64 0,.int .i64 0,.int .i64 0,.bool false,.slice none 0 0,.int .i64 0,.int .i64 0] 50)));have HF0:Hid (W0.heap[w.heap.size+1]? =some (.cells #[.int .i64 0,.int .i64 0] 52)):=j0 (by have h:=j1 (w.alloc (.cells #[.int .i64 0,.int .u64 0,.int .u64 0,.int .u64 0,.int .u64 0,.int .i64 0,.int .i64 0,.bool false,.slice none 0 0,.int .i64 0,.int .i64 0] 50)) (.cells #[.int .i64 0,.int .i64 0] 52);rw [World.size_alloc] at h;rw [hW0];exact h);have HSZ:Hid (W0.heap.size=w.heap.size+2):=j0 (by rw [hW0,World.size_alloc,World.size_alloc]);have HE0:=j0 hW0;clear hW0
 have hlen:(jm s).1.length<=1048576:=by
  have h:=zA s;omega
 rcases Xm hc h with ⟨h1,h2⟩|⟨h1,p,rfl,h2⟩
 ·rw [h1,h2] at SC;have hne:((c:Int) !=0)=true:=by simpa using hc
  have hne2:((c:Int)==0)=false:=by simpa using hc
  generalize (jm s).1=L at*;clear h h1 h2
  go_enter Tryz.func18,Tryz.ntmps18
  go_upto_region 1 with fail
  rw [<-HE0.out];clear HE0
  go_wp2_with fail
  refine(SC.out W0).mono ?_;rintro e w1 ⟨v,rfl,hg,hb⟩;have HB1:=j0 (HB0.out.trans (hb.mono HB0.out.size));have HB01:=j0 hb;clear hg hb SC;have hn:=(HB01.out.block _ (jS HN0.out)).trans HN0.out;have hf:=(HB01.out.block _ (jS HF0.out)).trans HF0.out;have q0:=jC hn 0;have q1:=jC hn 1;have q2:=jC hn 2;have q3:=jC hn 3;have q4:=jC hn 4;have q5:=jC hn 5;have q6:=jC hn 6;have q7:=jC hn 7;have q8:=jC hn 8;have q9:=jC hn 9;have q10:=jC hn 10;have z0:=jU hn 0;have z1:=jU hn 1;have z2:=jU hn 2;have z3:=jU hn 3;have z4:=jU hn 4;have z5:=jU hn 5;have z6:=jU hn 6;have z7:=jU hn 7;have z8:=jU hn 8;have z9:=jU hn 9;have z10:=jU hn 10;have p0:=jC hf 0;have p1:=jC hf 1;have y0:=jU hf 0;have y1:=jU hf 1;have hln:=jS hn;have hlf:=jS hf;simp only [Reg.la,Reg.lb,Reg.lc] at q0 q1 q2 q3 q4 q5 q6 q7 q8 q9 q10 p0 p1;clear hn hf
  go_wp2_with fail
  refine bodyPost_ret (v:=.tuple #[.agg #[.int .i64 0,.int .u64 0,.int .u64 0,.int .u64 0,.int .u64 0,.int .i64 0,.int .i64 0,.bool false,.slice none 0 0,.int .i64 0,.int .i64 0],.agg #[.int .i64 a,.int .i64 c]]) (by simp [results,Tryz.results18,go_sem,q0,q1,q2,q3,q4,q5,q6,q7,q8,q9,q10,p0,p1]) rfl ⟨rfl,?_⟩;exact((qV HB1.out (jN _) _ _ _ _ _ _ _ _ _ _ _).setCell (p:=⟨w.heap.size+1,0,none⟩) (Nat.le_succ _) _).setCell (p:=⟨w.heap.size+1,1,none⟩) (Nat.le_succ _) _
 ·rw [h1] at SC;have hne:((c:Int) !=0)=true:=by simpa using hc
  have hne2:((c:Int)==0)=false:=by simpa using hc
  generalize xy (jm s)=m at*;generalize (jm s).1=L at*;have HFI:=j0 (fun(v:Value) (X:World) (hX:qK X v L)=>Qo s.size hlen X hX);rw [h2] at HFI;have hss:(s.size:Int)<=1048576:=by omega
  clear h h1 h2
  go_enter Tryz.func18,Tryz.ntmps18
  go_upto_region 1 with fail
  rw [<-HE0.out];clear HE0
  go_wp2_with fail
  refine(SC.out W0).mono ?_;rintro e w1 ⟨v,rfl,hg,hb⟩;have HA1:=j0 hg.at;obtain⟨pt,cap,rfl⟩:=HA1.out.slice;have HB1:=j0 (HB0.out.trans (hb.mono HB0.out.size));have HB01:=j0 hb;clear hg hb SC
  go_wp2_with fail
  refine(HFI.out _ w1 HA1.out).mono ?_;rintro e w2 ⟨rfl,hb⟩;simp only [frV];have HB2:=j0 (HB1.out.trans (hb.mono HB1.out.size));have HB02:=j0 (HB01.out.trans (hb.mono HB01.out.size));clear hb HA1 HB1 HB01 HFI;obtain⟨W3,hW3⟩:∃X,X=w2.alloc (.cells #[.int .i64 (p:Int),.int .i64 c] 52):=⟨_,rfl⟩;have HF3:Hid (W3.heap[w2.heap.size]? =some (.cells #[.int .i64 (p:Int),.int .i64 c] 52)):=j0 (by rw [hW3];exact j1 w2 _);have b3:=j3 w2 (.cells #[.int .i64 (p:Int),.int .i64 c] 52);rw [<-hW3] at b3;have HB3:=j0 (HB2.out.trans (b3.mono HB2.out.size));have HB03:=j0 (HB02.out.trans (b3.mono HB02.out.size));have hz3:=HSZ.out;have hz4:=HB02.out.size;clear HB2 HB02 b3
  go_upto_region 5 with fail
  change Code.wp _ _ _ _ (w2.alloc (.cells #[.int .i64 (p:Int),.int .i64 c] 52));rw [<-hW3];clear hW3;have r0:=jC HF3.out 0;have r1:=jC HF3.out 1;have hlr:=jS HF3.out;simp only [Reg.la,Reg.lb,Reg.lc] at r0 r1;have hn:=(HB03.out.block _ (jS HN0.out)).trans HN0.out;have hf:=(HB03.out.block _ (jS HF0.out)).trans HF0.out;have q0:=jC hn 0;have q1:=jC hn 1;have q2:=jC hn 2;have q3:=jC hn 3;have q4:=jC hn 4;have q5:=jC hn 5;have q6:=jC hn 6;have q7:=jC hn 7;have q8:=jC hn 8;have q9:=jC hn 9;have q10:=jC hn 10;have z0:=jU hn 0;have z1:=jU hn 1;have z2:=jU hn 2;have z3:=jU hn 3;have z4:=jU hn 4;have z5:=jU hn 5;have z6:=jU hn 6;have z7:=jU hn 7;have z8:=jU hn 8;have z9:=jU hn 9;have z10:=jU hn 10;have p0:=jC hf 0;have p1:=jC hf 1;have y0:=jU hf 0;have y1:=jU hf 1;have hln:=jS hn;have hlf:=jS hf;simp only [Reg.la,Reg.lb,Reg.lc] at q0 q1 q2 q3 q4 q5 q6 q7 q8 q9 q10 p0 p1;clear hn hf
  go_upto_region 6 with fail
  go_region
  obtain⟨Y,hY⟩:∃Y,Y=((yX W3 w.heap.size (.int .i64 0) (.int .u64 0) (.int .u64 0) (.int .u64 0) (.int .u64 0) (.int .i64 0) (.int .i64 0) (.bool false) (.slice none 0 0) (.int .i64 0) (.int .i64 0)).setCell ⟨w.heap.size+1,0,none⟩ (.int .i64 (p:Int))).setCell ⟨w.heap.size+1,1,none⟩ (.int .i64 c):=⟨_,rfl⟩;have HN3:=(HB03.out.block _ (jS HN0.out)).trans HN0.out;have HQ3:=(HB03.out.block _ (jS HF0.out)).trans HF0.out
  have hnY:Y.heap[w.heap.size]? =some (.cells #[.int .i64 0,.int .u64 0,.int .u64 0,.int .u64 0,.int .u64 0,.int .i64 0,.int .i64 0,.bool false,.slice none 0 0,.int .i64 0,.int .i64 0] 50):=by
   obtain⟨Z,hZ⟩:∃Z,Z=yX W3 w.heap.size (.int .i64 0) (.int .u64 0) (.int .u64 0) (.int .u64 0) (.int .u64 0) (.int .i64 0) (.int .i64 0) (.bool false) (.slice none 0 0) (.int .i64 0) (.int .i64 0):=⟨_,rfl⟩;have hz:=Kc HN3 (.int .i64 0) (.int .u64 0) (.int .u64 0) (.int .u64 0) (.int .u64 0) (.int .i64 0) (.int .i64 0) (.bool false) (.slice none 0 0) (.int .i64 0) (.int .i64 0);rw [<-hZ] at hz;rw [hY,<-hZ];clear hZ hY;exact((js (js (ql Z (some (w.heap.size+1))) (p:=⟨w.heap.size+1,0,none⟩) (.inl rfl) (.int .i64 (p:Int))) (p:=⟨w.heap.size+1,1,none⟩) (.inl rfl) (.int .i64 c)).block w.heap.size (jS hz) (fun e=>by injection e with e;omega)).trans hz
  have hfY:Y.heap[w.heap.size+1]? =some (.cells #[.int .i64 (p:Int),.int .i64 c] 52):=by
   obtain⟨Z,hZ⟩:∃Z,Z=yX W3 w.heap.size (.int .i64 0) (.int .u64 0) (.int .u64 0) (.int .u64 0) (.int .u64 0) (.int .i64 0) (.int .i64 0) (.bool false) (.slice none 0 0) (.int .i64 0) (.int .i64 0):=⟨_,rfl⟩;have hz:=((vR W3 w.heap.size (.int .i64 0) (.int .u64 0) (.int .u64 0) (.int .u64 0) (.int .u64 0) (.int .i64 0) (.int .i64 0) (.bool false) (.slice none 0 0) (.int .i64 0) (.int .i64 0)).block (w.heap.size+1) (jS HQ3) (fun e=>by injection e with e;omega)).trans HQ3;rw [<-hZ] at hz;rw [hY,<-hZ];clear hZ hY;exact(Joins.block_setCell (i:=1) (Joins.block_setCell (i:=0) hz (.int .i64 (p:Int))) (.int .i64 c)).trans (by simp)
  have HBY:Below w.heap.size w Y:=by
   rw [hY];exact((qV HB3.out (jN _) _ _ _ _ _ _ _ _ _ _ _).setCell (p:=⟨w.heap.size+1,0,none⟩) (Nat.le_succ _) _).setCell (p:=⟨w.heap.size+1,1,none⟩) (Nat.le_succ _) _
  rw [<-hY];clear hY HN3 HQ3 r0 r1 hlr z0 z1 z2 z3 z4 z5 z6 z7 z8 z9 z10 y0 y1 q0 q1 q2 q3 q4 q5 q6 q7 q8 q9 q10 p0 p1;obtain⟨X,hX⟩:∃X,X=Y.drew:=⟨_,rfl⟩;have bX:Below Y.heap.size Y X:=by rw [hX];exact Below.drew (Below.refl _ _)
  rw [<-hX];clear hX;have hn:=j4 bX hnY;have hf:=j4 bX hfY;have HBX:=j0 (HBY.trans (bX.mono HBY.size));clear hnY hfY HBY bX;have hln:=jS hn;have hlf:=jS hf;have q0:=jC hn 0;have q1:=jC hn 1;have q2:=jC hn 2;have q3:=jC hn 3;have q4:=jC hn 4;have q5:=jC hn 5;have q6:=jC hn 6;have q7:=jC hn 7;have q8:=jC hn 8;have q9:=jC hn 9;have q10:=jC hn 10;have p0:=jC hf 0;have p1:=jC hf 1;simp only [Reg.la,Reg.lb,Reg.lc] at q0 q1 q2 q3 q4 q5 q6 q7 q8 q9 q10 p0 p1;clear hn hf
  go_wp2_with fail
  exact bodyPost_ret (v:=.tuple #[.agg #[.int .i64 0,.int .u64 0,.int .u64 0,.int .u64 0,.int .u64 0,.int .i64 0,.int .i64 0,.bool false,.slice none 0 0,.int .i64 0,.int .i64 0],.agg #[.int .i64 (p:Int),.int .i64 c]]) (by simp [results,Tryz.results18,go_sem,q0,q1,q2,q3,q4,q5,q6,q7,q8,q9,q10,p0,p1]) rfl ⟨rfl,HBX.out⟩
end
end
end Go.Proofs.YtnmalggmbeipaaaGreatDoor
