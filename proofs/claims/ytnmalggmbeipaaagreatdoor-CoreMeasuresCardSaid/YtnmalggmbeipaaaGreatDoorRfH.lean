/- A part of the proof. -/
import Derived.Test.YtnmalggmbeipaaaGreatDoorRfG
import Derived.Test.YtnmalggmbeipaaaGreatDoorTc
import Derived.Deep.DeepCutAuto
set_option maxRecDepth 100000
set_option maxHeartbeats 16000000
namespace Go.Proofs.YtnmalggmbeipaaaGreatDoor
open Go Go.RowKit
attribute [local go_sem ↓] Go.wp_at_zero Go.wp_at_succ
attribute [local go_sem] qX
theorem Ji(t u:W4)(n:Nat):(uni2 t u).mem n=(t.mem n||u.mem n):=memb_or _ _ _ _ _ _ _ _ n
theorem uni2_no{t:W4}(ht:t.fit):uni2 j7 t=t:=W4.ext' (yS _ _) ht fun n _=>by rw [Ji,Q1,Bool.false_or]
structure zv(s:ByteArray)(R:W4×Int×Nat)(fst:Bool)(t:W4)(i:Nat):Prop where
 fit:t.fit
 le:i<=s.size
 one:fst=true->t=j7/\R=ke s i
 more:fst=false->∃n,ClsInv s R n t 0 i
theorem zv.step{s:ByteArray}{R:W4×Int×Nat}{fst:Bool}{t:W4}{i:Nat}(h:zv s R fst t i)(hg:fst=true\/jl s i≠93):∃n,ClsInv s R n (uni2 t (jB s i).1) (jB s i).2.1 (jB s i).2.2:=by
 cases fst with
 |true=>
  obtain⟨h1,h2⟩:=h.one rfl;subst h1 h2;refine⟨s.size+2,?_⟩;rw [uni2_no (itemR_set h.le).fit];exact ClsInv.start h.le
 |false=>
  obtain⟨n,hn⟩:=h.more rfl;exact⟨n-1,(hn.next (hg.resolve_left (by decide))).2⟩
theorem zv.bad{s:ByteArray}{R:W4×Int×Nat}{fst:Bool}{t x:W4}{i j:Nat}{c:Int}(h:zv s R fst t i)(hg:fst=true\/jl s i≠93)(hi:jB s i=(x,c,j))(he:c≠0):R=(j7,c,j):=by
 obtain⟨n,hn⟩:=h.step hg;rw [hi] at hn;exact hn.bad he
theorem zv.on{s:ByteArray}{R:W4×Int×Nat}{fst:Bool}{t x:W4}{i j:Nat}(h:zv s R fst t i)(hg:fst=true\/jl s i≠93)(hi:jB s i=(x,0,j)):zv s R false (uni2 t x) j/\i<j:=by
 obtain⟨n,hn⟩:=h.step hg;have hs:=itemR_set h.le;rw [hi] at hn hs;exact⟨⟨hn.fit,hn.le,(fun e=>by cases e),fun _=>⟨n,hn⟩⟩,hs.on rfl⟩
theorem zv.done{s:ByteArray}{R:W4×Int×Nat}{t:W4}{i:Nat}(h:zv s R false t i)(h93:jl s i=93):R=(t,0,i+1):=by
 obtain⟨n,hn⟩:=h.more rfl;exact hn.done h93
theorem je.same{w w':World}{b:Nat}{x y:Int}(h:je w b x y)(e:w'.heap[b]? =w.heap[b]?)(hs:w.heap.size<=w'.heap.size):je w' b x y:=by
 have c:∀o,w'.cell? ⟨b,o,none⟩=w.cell? ⟨b,o,none⟩:=fun o=>World.cell?_of_block (w:=w) (a:=⟨b,o,none⟩) e
 have f:∀o,w'.frozen? ⟨b,o,none⟩=w.frozen? ⟨b,o,none⟩:=fun o=>World.frozen?_of_block (w:=w) (a:=⟨b,o,none⟩) e
 exact⟨⟨(c 0).trans h.at_.1,(c 1).trans h.at_.2⟩,⟨(f 0).trans h.free.1,(f 1).trans h.free.2⟩,Nat.lt_of_lt_of_le h.lt hs⟩
abbrev bsOb(f:Nat->Bool):Obj:=.cells (bl f) 4
abbrev vU(j:Nat)(c:Int):Obj:=.cells #[.int .i64 (j:Int),.int .i64 c] 177
structure U8(w X:World)(f:Nat->Bool):Prop where
 st:OwnSet X w.heap.size j7
 en:je X (w.heap.size+1) 0 0
 on:X.heap[w.heap.size+1+1]? =some (bsOb f)
 bel:Below w.heap.size w X
theorem U8.below{w X Y:World}{f:Nat->Bool}(h:U8 w X f)(hb:Below X.heap.size X Y):U8 w Y f:=⟨h.st.below hb,h.en.below hb,j4 hb h.on,h.bel.trans (hb.mono h.bel.size)⟩
theorem U8.lt{w X:World}{f:Nat->Bool}(h:U8 w X f):w.heap.size+1+1<X.heap.size:=jS h.on
theorem U8.cell{w X:World}{f:Nat->Bool}(h:U8 w X f)(m:Nat)(hm:m<256){v:Bool}(hv:f m=v):
  X.cell? ⟨w.heap.size+1+1,m,none⟩=some (.bool v)/\X.frozen? ⟨w.heap.size+1+1,m,none⟩=false/\w.heap.size+1+1<X.heap.size:=
 ⟨by rw [<-hv];exact(jC h.on m).trans (UF _ m hm),jU h.on m,h.lt⟩
theorem U8.set{w X:World}{f f':Nat->Bool}(h:U8 w X f)(m:Nat)(v:Bool)(hf:∀i,i<256->f' i=if i=m then v else f i):U8 w (X.setCell ⟨w.heap.size+1+1,m,none⟩ (.bool v)) f':=by
 have hs:X.heap.size<=(X.setCell ⟨w.heap.size+1+1,m,none⟩ (.bool v)).heap.size:=by simp [World.setCell]
 refine⟨h.st.same (Below.heap_setCell _ _ _ _ (by simp;omega)) hs,h.en.same (Below.heap_setCell _ _ _ _ (by simp)) hs,?_,h.bel.setCell (by simp;omega) _⟩;rw [Joins.block_setCell h.on,bl_set];congr 2;exact zs fun i hi=>(hf i hi).symm
theorem U8.congr{w X:World}{f f':Nat->Bool}(h:U8 w X f)(hf:∀i,i<256->f' i=f i):U8 w X f':=
 ⟨h.st,h.en,by rw [h.on];show some (Obj.cells (bl f) _)=some (Obj.cells (bl f') _);rw [zs hf],h.bel⟩
theorem U8.ret{w X:World}{f:Nat->Bool}(h:U8 w X f)(t:W4)(x y:Int):Below w.heap.size w (jO (jQ X w.heap.size t) (w.heap.size+1) x y):=
 ((kD h.bel (jN _) _ _ _ _).setCell (by simp) _).setCell (by simp) _
theorem clw_start(w:World):U8 w (((w.alloc j5).alloc yP).alloc (bsOb fun _=>false)) (fun _=>false):=by
 obtain⟨h1,h2,h3,h4⟩:=Yn w _ rfl;refine⟨h1.below (j3 _ _),h2.below (j3 _ _),?_,h3.trans ((j3 _ _).mono h3.size)⟩;have h:=j1 ((w.alloc j5).alloc yP) (bsOb fun _=>false);rw [h4] at h;exact h
theorem X5{X:World}{b g m:Nat}{o:Obj}(h:X.heap[b]? =some o)(hne:b≠g)(v:Value):(X.setCell ⟨g,m,none⟩ v).heap[b]? =some o:=by
 rw [Below.heap_setCell _ _ _ _ (by simpa using hne)];exact h
structure ItB(X:World)(b:Nat)(t:W4)(j:Nat)(c:Int):Prop where
 set:X.heap[b]? =some (jG t)
 en:X.heap[b+1]? =some (vU j c)
theorem ItB.new(X:World)(t:W4)(j:Nat)(c:Int):ItB ((X.alloc (jG t)).alloc (vU j c)) X.heap.size t j c:=by
 refine⟨j4 (j3 _ _) (j1 _ _),?_⟩;have h:=j1 (X.alloc (jG t)) (vU j c);rw [World.size_alloc] at h;exact h
theorem ItB.below{X Y:World}{b:Nat}{t:W4}{j:Nat}{c:Int}(h:ItB X b t j c)(hb:Below X.heap.size X Y):ItB Y b t j c:=⟨j4 hb h.set,j4 hb h.en⟩
theorem ItB.put{X:World}{b g m:Nat}{t:W4}{j:Nat}{c:Int}(h:ItB X b t j c)(hb:g<b)(v:Value):ItB (X.setCell ⟨g,m,none⟩ v) b t j c:=⟨X5 h.set (by omega) v,X5 h.en (by omega) v⟩
theorem vT{W:World}{b j:Nat}{c:Int}(h:W.heap[b]? =some (vU j c)):W.cell? ⟨b,0,none⟩=some (.int .i64 (j:Int))/\W.cell? ⟨b,1,none⟩=some (.int .i64 c)/\b<W.heap.size:=
 ⟨jC h 0,jC h 1,jS h⟩
structure ErS(w:World)(b:Nat)(j:Nat)(c:Int)(listed:Array Bool)(X:World):Prop where
 st:OwnSet X w.heap.size j7
 en:je X (w.heap.size+1) (if listed.getD 3 false=true then(j:Int) else 0) (if listed.getD 3 false=true then c else 0)
 it:je X b j c
 ne:w.heap.size+1+1<b
 bel:Below w.heap.size w X
theorem ErS.same{w:World}{b j:Nat}{c:Int}{listed:Array Bool}{X:World}{i:Nat}(h:ErS w b j c listed X)(h3:i≠3):ErS w b j c (listed.setIfInBounds i true) X:=by
 refine⟨h.st,?_,h.it,h.ne,h.bel⟩;rw [getD_set_ne false h3];exact h.en
theorem ErS.put2{w:World}{b j:Nat}{c:Int}{listed:Array Bool}{X:World}(h:ErS w b j c listed X):ErS w b j c (listed.setIfInBounds 2 true) (jQ X w.heap.size j7):=by
 have hne:=h.ne;refine⟨h.st.put j7,?_,h.it.set_ (by omega),h.ne,kD h.bel (jN _) _ _ _ _⟩;rw [getD_set_ne false (by decide)];exact h.en.set_ (by omega)
theorem ErS.put3{w:World}{b j:Nat}{c:Int}{listed:Array Bool}{X:World}(h:ErS w b j c listed X)(hin:3<listed.size):ErS w b j c (listed.setIfInBounds 3 true) (jO X (w.heap.size+1) j c):=by
 have hne:=h.ne;refine⟨h.st.end_ (by omega),?_,h.it.other (by omega),h.ne,(h.bel.setCell (by simp) _).setCell (by simp) _⟩;rw [if_pos (Reg.set_self hin),if_pos (Reg.set_self hin)];exact h.en.put j c
def Vv(j:Nat)(c:Int):Nat->Value
 |0=>.agg #[.int .u64 0,.int .u64 0,.int .u64 0,.int .u64 0]
 |1=>.agg #[.int .i64 (j:Int),.int .i64 c]
 |_=>undef
theorem V9(s:ByteArray)(k:Nat)(hk:k<s.size)(hs:s.size<=1099511627776)(w:World):
  Calls Tryz.prog 139 #[.string s,.int .i64 (k:Int)] w fun e w'=>e=.returned (kC (kH s k))/\Below w.heap.size w w':=by
 have hmk:∀w,(Instr.makeSlice 69 (.int .i64 256) (.int .i64 256)).run Tryz.prog w=.ok (.slice (some ⟨w.heap.size,0,none⟩) 256 256) (w.alloc (bsOb fun _=>false)):=fun _=>by kernel_rfl
 obtain⟨nt,hnt⟩:∃nt,nt=decide (jl s (k+1)=94):=⟨_,rfl⟩;obtain⟨i0,hi0⟩:∃i0,i0=(if nt=true then k+2 else k+1):=⟨_,rfl⟩
 have hi0s:i0<=s.size:=by
  cases nt
  ·simp at hi0;omega
  ·have h:=ka (of_decide_eq_true hnt.symm) (by omega);simp at hi0;omega
 have HCL:Hid (kH s k=if nt=true then(if(ke s i0).2.1≠0 then(j7,(ke s i0).2.1,(ke s i0).2.2) else(km (ke s i0).1,0,(ke s i0).2.2)) else ke s i0):=j0 (by
  unfold kH
  by_cases h:jl s (k+1)=94
  ·rw [if_pos h];simp [h] at hnt;subst hnt;simp at hi0;subst hi0;rfl
  ·rw [if_neg h];simp [h] at hnt;subst hnt;simp at hi0;subst hi0;rfl)
 have hR0:zv s (ke s i0) true j7 i0:=⟨qf,hi0s,fun _=>⟨rfl,rfl⟩,fun h=>by cases h⟩;obtain⟨R,hR⟩:∃R,R=ke s i0:=⟨_,rfl⟩;rw [<-hR] at HCL hR0;have HR0:=j0 hR0;have HW0:=j0 (clw_start w);have HI0:=j0 hi0;clear hR hR0 hi0;obtain⟨k1,hk1⟩:∃k1,k1=k+1:=⟨_,rfl⟩;have ek1:IntKind.i64.wrap ((k:Int)+1)=(k1:Int):=by simp [IntKind.wrap,IntKind.signed,IntKind.bits];omega
 have ek2:(k:Int)+1=(k1:Int):=by omega
 have HK1:=j0 hk1;rw [<-hk1] at hnt;have HNT:=j0 hnt;clear hnt hk1
 go_enter Tryz.func139,Tryz.ntmps139
 go_upto_region 2 with fail
 go_cut [7] (fun v wx=>v=.bool nt/\wx=(w.alloc j5).alloc yP)
 case first=>
  by_cases hlt:k1<s.size
  ·have d1:decide (k1<s.size)=true:=jT hlt
   by_cases h94:jl s k1=94
   ·have hc:(((s[k1]'hlt).toNat:Int)==94)=true:=by rw [jy hlt] at h94;simp [h94]
    have hN:nt=true:=by rw [HNT.out,h94];rfl
    clear h94
    go_wp2_with fail
    go_meet
    exact⟨by rw [hN],rfl⟩
   ·have hc:(((s[k1]'hlt).toNat:Int)==94)=false:=by rw [jy hlt] at h94;simp;omega
    have hN:nt=false:=by rw [HNT.out,jF h94]
    clear h94
    go_wp2_with fail
    go_meet
    exact⟨by rw [hN],rfl⟩
  ·have d1:decide (k1<s.size)=false:=jF hlt;have hN:nt=false:=by rw [HNT.out,qr (by omega)];rfl
   go_wp2_with fail
   go_meet
   exact⟨by rw [hN],rfl⟩
 case rest=>
  obtain⟨rfl,rfl⟩:=hcut
  go_upto_if 32 with fail
  go_cut [6] (fun v wx=>v=.int .i64 (i0:Int)/\wx=(w.alloc j5).alloc yP)
  case first=>
   cases nt
   ·have hN:i0=k1:=by rw [HI0.out,HK1.out];rfl
    go_wp2_with fail
    go_meet
    exact⟨by rw [hN],rfl⟩
   ·have hN:i0=k1+1:=by rw [HI0.out,HK1.out];rfl
    have hk1b:k1<=s.size:=by have:=HK1.out;omega
    clear ek2 ek1
    go_wp2_with fail
    go_meet
    exact⟨by rw [hN];go_num,rfl⟩
  case rest=>
   obtain⟨rfl,rfl⟩:=hcut;clear ek1 ek2 HK1 HI0 HNT
   go_wp2_with fail
   clear hmk
   go_loopw [6,9] (fun v fs wr=>∃(fst:Bool) (i:Nat) (t:W4),v=.int .i64 (i:Int)/\fs=.bool fst/\i<=s.size/\Hid (zv s R fst t i)/\Hid (U8 w wr t.mem)) (fun v _ _=>s.size-(intOf v).toNat)
   case atStart=>exact⟨true,i0,j7,rfl,rfl,hi0s,HR0,j0 (HW0.out.congr (fun i _=>Q1 i))⟩
   case round=>
    clear HW0 HR0;obtain⟨fst,i,t,rfl,rfl,hi,HR,HW⟩:=hrel
    go_upto_region 7 with fail
    go_cut [48] (fun v wx=>v=.bool (fst|| !decide (jl s i=93))/\wx=wr)
    case first=>
     cases fst
     ·by_cases hlt:i<s.size
      ·have d1:decide (s.size<=i)=false:=jF (by omega)
       by_cases h93:jl s i=93
       ·have hc:(((s[i]'hlt).toNat:Int) !=93)=false:=by rw [jy hlt] at h93;simp [h93]
        have HD:=j0 (jT h93);clear h93
        go_wp2_with fail
        go_meet
        exact⟨by rw [HD.out];rfl,rfl⟩
       ·have hc:(((s[i]'hlt).toNat:Int) !=93)=true:=by rw [jy hlt] at h93;simp;omega
        have HD:=j0 (jF h93);clear h93
        go_wp2_with fail
        go_meet
        exact⟨by rw [HD.out];rfl,rfl⟩
      ·have d1:decide (s.size<=i)=true:=jT (by omega);have h93:¬jl s i=93:=by rw [qr (by omega)];decide
       have HD:=j0 (jF h93);clear h93
       go_wp2_with fail
       go_meet
       exact⟨by rw [HD.out];rfl,rfl⟩
     ·go_wp2_with fail
      go_meet
      exact⟨rfl,rfl⟩
    case rest=>
     obtain⟨rfl,rfl⟩:=hcut
     cases hG:(fst|| !decide (jl s i=93))
     ·obtain⟨rfl,h93⟩:fst=false/\jl s i=93:=by simpa using hG
      have HD:=j0 (HR.out.done h93);have hft:=HR.out.fit;have hi1:=ka h93 (by omega);clear HR h93 hG
      cases nt
      ·obtain⟨u,hu⟩:∃u,u=t/\u.fit:=⟨t,rfl,hft⟩;obtain⟨rfl,hu⟩:=hu;have HF:Hid (kH s k=(u,0,i+1)):=j0 (by rw [HCL.out,if_neg (by decide),HD.out]);have MK:Hid (∀W f,W.heap[(w.heap.size+1+1)]? =some (bsOb f)->(∀n,n<256->u.mem n=f n)->Calls Tryz.prog 192 #[.slice (some ⟨(w.heap.size+1+1),0,none⟩) 256 256] W fun e w'=>e=.returned (kd u)/\Below W.heap.size W w'):=j0 (fun W f hW hf=>J7 u.a u.b u.c u.d (xl hW) hu.1 hu.2.1 hu.2.2.1 hu.2.2.2 hf);clear HCL HD hft
       go_wp2_with fail
       go_loopw [19] (fun b wb=>b=.int .i64 0/\Hid (U8 w wb u.mem)) (fun _ _=>0)
       case atStart=>exact⟨rfl,HW⟩
       case round=>
        obtain⟨rfl,HB⟩:=hrel
        go_wp2_with fail
        refine(MK.out _ _ HB.out.on (fun n hn=>rfl)).mono ?_;rintro e w5 ⟨rfl,hb5⟩;have HW5:=j0 (HB.out.below hb5);obtain⟨⟨u0,u1,u2,u3⟩,⟨v0,v1,v2,v3⟩,_hu⟩:=HW5.out.st;obtain⟨⟨e0,e1⟩,⟨i0',i1'⟩,he⟩:=HW5.out.en;clear hb5 MK HB;unfold kd
        go_wp2_with fail
        refine bodyPost_ret (v:=.tuple #[kd u,.agg #[.int .i64 ((i:Int)+1),.int .i64 0]]) (by simp [results,Tryz.results139,go_sem,u0,u1,u2,u3,e0,e1]) rfl ⟨by rw [HF.out];simp [kC],?_⟩;exact HW5.out.ret u ((i:Int)+1) 0
      ·obtain⟨u,hu⟩:∃u,u=km t/\u.fit:=⟨km t,rfl,notW_fit t⟩;obtain⟨hut,hu⟩:=hu;have HF:Hid (kH s k=(u,0,i+1)):=j0 (by rw [HCL.out,if_pos rfl,HD.out,hut];rfl);have HUM:Hid (∀n,u.mem n= !t.mem n):=j0 (fun n=>by rw [hut];exact zi t n);have MK:Hid (∀W f,W.heap[(w.heap.size+1+1)]? =some (bsOb f)->(∀n,n<256->u.mem n=f n)->Calls Tryz.prog 192 #[.slice (some ⟨(w.heap.size+1+1),0,none⟩) 256 256] W fun e w'=>e=.returned (kd u)/\Below W.heap.size W w'):=j0 (fun W f hW hf=>J7 u.a u.b u.c u.d (xl hW) hu.1 hu.2.1 hu.2.2.1 hu.2.2.2 hf);clear HCL HD hft hut
       go_wp2_with fail
       go_loopw [19] (fun b wb=>∃m:Nat,m<=256/\b=.int .i64 m/\Hid (U8 w wb (fun q=>if q<m then !t.mem q else t.mem q))) (fun b _=>256-(intOf b).toNat)
       case atStart=>exact⟨0,by omega,rfl,j0 (HW.out.congr (fun i _=>by simp))⟩
       case round=>
        obtain⟨m,hm,rfl,HB⟩:=hrel
        by_cases hlt:m<256
        ·have dk:decide ((m:Int)<256)=true:=jT (by omega);obtain⟨x,hx⟩:∃x,x=t.mem m:=⟨_,rfl⟩;obtain⟨q0,f0,l0⟩:=HB.out.cell m hlt (v:=x) (by simp [hx])
         have HN:=j0 (HB.out.set (f':=fun q=>if q<m+1 then !t.mem q else t.mem q) m (!x) (fun i hi=>by
          by_cases e:i=m
          ·subst e;simp [hx]
          ·by_cases h:i<m
           ·simp [e,h];omega
           ·have:¬i<m+1:=by omega
            simp [e,h,this]))
         clear hx
         cases x
         ·go_wp2_with fail
          go_roundw
          case rel=>exact⟨m+1,by omega,by go_num,HN⟩
          case measure=>simp [intOf];omega
         ·go_wp2_with fail
          go_roundw
          case rel=>exact⟨m+1,by omega,by go_num,HN⟩
          case measure=>simp [intOf];omega
        ·obtain rfl:m=256:=by omega
         go_wp2_with fail
         refine(MK.out _ _ HB.out.on (fun n hn=>by rw [HUM.out,if_pos hn])).mono ?_;rintro e w5 ⟨rfl,hb5⟩;have HW5:=j0 (HB.out.below hb5);obtain⟨⟨u0,u1,u2,u3⟩,⟨v0,v1,v2,v3⟩,_hu⟩:=HW5.out.st;obtain⟨⟨e0,e1⟩,⟨i0',i1'⟩,he⟩:=HW5.out.en;clear hb5 MK HB;unfold kd
         go_wp2_with fail
         refine bodyPost_ret (v:=.tuple #[kd u,.agg #[.int .i64 ((i:Int)+1),.int .i64 0]]) (by simp [results,Tryz.results139,go_sem,u0,u1,u2,u3,e0,e1]) rfl ⟨by rw [HF.out];simp [kC],?_⟩;exact HW5.out.ret u ((i:Int)+1) 0
     ·have hg:fst=true\/jl s i≠93:=by simpa using hG
      clear hG;have IT:=j0 (fun W=>Kx s i hi hs W);have hp:=vW hi
      have HIT:Hid (jB s i=if(jH s i).2.1≠0\/jl s (jH s i).2.2≠45 then jH s i else match qi (jH s i).1 with
       |none=>(j7,4,(jH s i).2.2)
       |some a=>VJ s i a ((jH s i).2.2+1)):=j0 rfl
      obtain⟨r,hr⟩:∃r,r=jH s i:=⟨_,rfl⟩;rw [<-hr] at IT HIT hp;clear hr;obtain⟨lo,c,j⟩:=r;have IT:Hid (∀W,Calls Tryz.prog 190 #[.string s,.int .i64 (i:Int)] W fun e w'=>e=.returned (.tuple #[kd lo,.agg #[.int .i64 (j:Int),.int .i64 c]])/\Below W.heap.size W w'):=IT
      have HIT:Hid (jB s i=if c≠0\/jl s j≠45 then(lo,c,j) else match qi lo with
       |none=>(j7,4,j)
       |some a=>VJ s i a (j+1)):=HIT
      go_wp2_with fail
      refine(IT.out _).mono ?_;rintro e w2 ⟨rfl,hb2⟩;unfold kd;have HW2:=j0 (HW.out.below hb2);clear hb2
      rcases XN hp.err with rfl|⟨hc0,hc1,hc2⟩
      ·have hlt2:=HW2.out.lt;have HW3:=j0 (HW2.out.below (kw _ (jG lo) (vU j 0)));have IB3:=j0 (ItB.new w2 lo j 0);have HFL:Hid lo.fit:=j0 hp.fit;have hj:j<=s.size:=hp.le;have HS:=j0 (fun n (hn:n<256) W=>VT lo n hn HFL.out W);clear HW HW2 IT;obtain⟨e0,e1,e2⟩:=vT IB3.out.en
       go_wp2_with fail
       generalize w2.heap.size=b11 at*
       go_loopw [13] (fun b wb=>∃m:Nat,m<=256/\b=.int .i64 m/\Hid (U8 w wb (fun q=>t.mem q||(decide (q<m) && lo.mem q)))/\Hid (ItB wb b11 lo j 0)) (fun b _=>256-(intOf b).toNat)
       case atStart=>exact⟨0,by omega,rfl,j0 (HW3.out.congr (fun i _=>by simp)),IB3⟩
       case round=>
        clear HW3 IB3 e0 e1 e2;obtain⟨m,hm,rfl,HB,IB⟩:=hrel
        by_cases hlt:m<256
        ·have dk:decide ((m:Int)<256)=true:=jT (by omega)
         have hset:∀i,i<256->(t.mem i||(decide (i<m+1) && lo.mem i))=if i=m then(t.mem m||lo.mem m) else(t.mem i||(decide (i<m) && lo.mem i)):=fun i _=>by
          by_cases e:i=m
          ·subst e;simp
          ·have:decide (i<m+1)=decide (i<m):=by
            by_cases h:i<m
            ·simp [h];omega
            ·simp [h];omega
           simp [e,this]
         have HST:=j0 hset;clear hset;have HSm:=j0 (HS.out m hlt)
         cases ht:t.mem m
         ·obtain⟨q0,f0,l0⟩:=HB.out.cell m hlt (v:=false) (by simp [ht]);rw [ht] at HST;have HST:Hid (∀i,i<256->(t.mem i||(decide (i<m+1) && lo.mem i))=if i=m then lo.mem m else(t.mem i||(decide (i<m) && lo.mem i))):=j0 (fun i hi=>by rw [HST.out i hi,Bool.false_or]);clear ht;obtain⟨⟨z0,z1,z2,z3⟩,hz⟩:=jA IB.out.set
          go_wp2_with fail
          refine(HSm.out _).mono ?_;rintro e w3 ⟨rfl,hb3⟩;have HB3:=j0 (HB.out.below hb3);have IB3:=j0 (IB.out.below hb3);have HN:=j0 (HB3.out.set m (lo.mem m) HST.out);have IN:=j0 (IB3.out.put hlt2 (m:=m) (.bool (lo.mem m)));clear q0 f0 l0 z0 z1 z2 z3 hz hb3 HST;obtain⟨q0,f0,l0⟩:=HB3.out.cell m hlt rfl
          go_wp2_with fail
          go_roundw
          case rel=>exact⟨m+1,by omega,by go_num,HN,IN⟩
          case measure=>simp [intOf];omega
         ·obtain⟨q0,f0,l0⟩:=HB.out.cell m hlt (v:=true) (by simp [ht]);rw [ht] at HST;have HN:=j0 (HB.out.set (f':=fun q=>t.mem q||(decide (q<m+1) && lo.mem q)) m true (fun i hi=>by have h:=HST.out i hi;rw [Bool.true_or] at h;exact h));have IN:=j0 (IB.out.put hlt2 (m:=m) (.bool true));clear ht HST
          go_wp2_with fail
          go_roundw
          case rel=>exact⟨m+1,by omega,by go_num,HN,IN⟩
          case measure=>simp [intOf];omega
        ·obtain rfl:m=256:=by omega
         have HB:=j0 (HB.out.congr (f':=(uni2 t lo).mem) (fun i hi=>by rw [Ji];simp [hi]))
         go_upto_region 18 with fail
         go_cut [88] (fun v wx=>v=.bool (!decide (jl s j=45))/\wx=wr)
         case first=>
          by_cases hlt:j<s.size
          ·have d1:decide (s.size<=j)=false:=jF (by omega)
           by_cases h45:jl s j=45
           ·have hc:(((s[j]'hlt).toNat:Int) !=45)=false:=by rw [jy hlt] at h45;simp [h45]
            have HD:=j0 (jT h45);clear h45
            go_wp2_with fail
            go_meet
            exact⟨by rw [HD.out];rfl,rfl⟩
           ·have hc:(((s[j]'hlt).toNat:Int) !=45)=true:=by rw [jy hlt] at h45;simp;omega
            have HD:=j0 (jF h45);clear h45
            go_wp2_with fail
            go_meet
            exact⟨by rw [HD.out];rfl,rfl⟩
          ·have d1:decide (s.size<=j)=true:=jT (by omega);have h45:¬jl s j=45:=by rw [qr (by omega)];decide
           have HD:=j0 (jF h45);clear h45
           go_wp2_with fail
           go_meet
           exact⟨by rw [HD.out];rfl,rfl⟩
         case rest=>
          obtain⟨rfl,rfl⟩:=hcut
          by_cases h45:jl s j=45
          ·rw [jT h45];have hj1:=ka h45 (by omega)
           have HIT:Hid (jB s i=match qi lo with
            |none=>(j7,4,j)
            |some a=>VJ s i a (j+1)):=j0 (by rw [HIT.out,if_neg (by rintro(h|h);exact h rfl;exact h h45)])
           clear h45;have ON:=j0 (fun W=>Kw lo HFL.out W);obtain⟨⟨z0,z1,z2,z3⟩,hz⟩:=jA IB.out.set
           rcases ho:qi lo with _|a
           ·rw [show xS lo= -1 by unfold xS;rw [ho]] at ON
            have HF:Hid (kH s k=(j7,4,j)):=j0 (by
             have h:=HR.out.bad hg (by rw [HIT.out,ho]) (by decide);rw [HCL.out,h]
             cases nt<;>simp)
            clear HIT HCL HR ho
            go_wp2_with fail
            refine(ON.out _).mono ?_;rintro e w4 ⟨rfl,hb4⟩;have HW4:=j0 (HB.out.below hb4);clear hb4 HB IB z0 z1 z2 z3 hz ON;obtain⟨⟨u0,u1,u2,u3⟩,⟨v0,v1,v2,v3⟩,hu⟩:=HW4.out.st;obtain⟨⟨e0,e1⟩,⟨i0',i1'⟩,he⟩:=HW4.out.en
            go_wp2_with fail
            refine bodyPost_ret (v:=.tuple #[.agg #[.int .u64 0,.int .u64 0,.int .u64 0,.int .u64 0],.agg #[.int .i64 (j:Int),.int .i64 4]]) (by simp [results,Tryz.results139,go_sem,j7,u0,u1,u2,u3,e0,e1]) rfl ⟨by rw [HF.out];simp [kC,j7],?_⟩;exact HW4.out.ret j7 (j:Int) 4
           ·rw [show xS lo=(a:Int) by unfold xS;rw [ho]] at ON;obtain⟨q,hq⟩:∃q,q=j+1:=⟨_,rfl⟩;have hqs:q<=s.size:=by omega
            have HIT:Hid (jB s i=VJ s i a q):=j0 (by rw [HIT.out,ho,hq]);have ha:=(xh ho).1;have HO:=j0 (xh ho);clear ho;have IT2:=j0 (fun W=>Kx s q hqs hs W);have hp2:=vW hqs
            have HTO:Hid (VJ s i a q=if(jH s q).2.1≠0 then(j7,(jH s q).2.1,(jH s q).2.2) else match qi (jH s q).1 with
             |none=>(j7,4,q)
             |some b=>if b<a then(j7,5,i) else(jL a b,0,(jH s q).2.2)):=j0 rfl
            have eq1:IntKind.i64.wrap ((j:Int)+1)=(q:Int):=by simp [IntKind.wrap,IntKind.signed,IntKind.bits];omega
            have eq2:(j:Int)+1=(q:Int):=by omega
            obtain⟨r,hr⟩:∃r,r=jH s q:=⟨_,rfl⟩;rw [<-hr] at IT2 HTO hp2;clear hr hq;obtain⟨hi',f,j2⟩:=r;have IT2:Hid (∀W,Calls Tryz.prog 190 #[.string s,.int .i64 (q:Int)] W fun e w'=>e=.returned (.tuple #[kd hi',.agg #[.int .i64 (j2:Int),.int .i64 f]])/\Below W.heap.size W w'):=IT2
            have HTO:Hid (VJ s i a q=if f≠0 then(j7,f,j2) else match qi hi' with
             |none=>(j7,4,q)
             |some b=>if b<a then(j7,5,i) else(jL a b,0,j2)):=HTO
            go_wp2_with fail
            refine(ON.out _).mono ?_;rintro e w4 ⟨rfl,hb4⟩;have HW4:=j0 (HB.out.below hb4);clear hb4 HB IB z0 z1 z2 z3 hz ON;have dA:decide ((a:Int)<0)=false:=jF (by omega)
            go_wp2_with fail
            refine(IT2.out _).mono ?_;rintro e w5 ⟨rfl,hb5⟩;have HW5:=j0 (HW4.out.below hb5);have hlt5:=HW5.out.lt;clear hb5 HW4 IT2 eq1 dA;unfold kd
            rcases XN hp2.err with rfl|⟨hd0,hd1,hd2⟩
            ·have HFH:Hid hi'.fit:=j0 hp2.fit;have hj2:j2<=s.size:=hp2.le
             have HTO:Hid (VJ s i a q=match qi hi' with
              |none=>(j7,4,q)
              |some b=>if b<a then(j7,5,i) else(jL a b,0,j2)):=j0 (by rw [HTO.out,if_neg (by simp)])
             have ON:=j0 (fun W=>Kw hi' HFH.out W);have HW6:=j0 (HW5.out.below (kw _ (jG hi') (vU j2 0)));have IB6:=j0 (ItB.new w5 hi' j2 0);clear HW5;obtain⟨e0,e1,e2⟩:=vT IB6.out.en;obtain⟨⟨z0,z1,z2,z3⟩,hz⟩:=jA IB6.out.set
             rcases ho2:qi hi' with _|b
             ·rw [show xS hi'= -1 by unfold xS;rw [ho2]] at ON
              have HF:Hid (kH s k=(j7,4,q)):=j0 (by
               have h:=HR.out.bad hg (by rw [HIT.out,HTO.out,ho2]) (by decide);rw [HCL.out,h]
               cases nt<;>simp)
              clear HIT HCL HR ho2 HTO HO
              go_wp2_with fail
              refine(ON.out _).mono ?_;rintro e w7 ⟨rfl,hb7⟩;have HW7:=j0 (HW6.out.below hb7);have IB7:=j0 (IB6.out.below hb7);clear hb7 HW6 IB6 z0 z1 z2 z3 hz e0 e1 e2 ON;obtain⟨⟨u0,u1,u2,u3⟩,⟨v0,v1,v2,v3⟩,hu⟩:=HW7.out.st;obtain⟨⟨e0,e1⟩,⟨i0',i1'⟩,he⟩:=HW7.out.en
              go_wp2_with fail
              refine bodyPost_ret (v:=.tuple #[.agg #[.int .u64 0,.int .u64 0,.int .u64 0,.int .u64 0],.agg #[.int .i64 (q:Int),.int .i64 4]]) (by simp [results,Tryz.results139,go_sem,j7,u0,u1,u2,u3,e0,e1]) rfl ⟨by rw [HF.out];simp [kC,j7],?_⟩;exact HW7.out.ret j7 (q:Int) 4
             ·rw [show xS hi'=(b:Int) by unfold xS;rw [ho2]] at ON;have hb:=(xh ho2).1
              by_cases hba:b<a
              ·have dba:decide (b<a)=true:=jT hba
               have HF:Hid (kH s k=(j7,5,i)):=j0 (by
                have hI:jB s i=(j7,5,i):=by rw [HIT.out,HTO.out,ho2];exact if_pos hba
                have h:=HR.out.bad hg hI (by decide);rw [HCL.out,h]
                cases nt<;>simp)
               clear HIT HCL HR ho2 HTO hba HO
               go_wp2_with fail
               refine(ON.out _).mono ?_;rintro e w7 ⟨rfl,hb7⟩;have HW7:=j0 (HW6.out.below hb7);have IB7:=j0 (IB6.out.below hb7);clear hb7 HW6 IB6 z0 z1 z2 z3 hz e0 e1 e2 ON;obtain⟨⟨u0,u1,u2,u3⟩,⟨v0,v1,v2,v3⟩,hu⟩:=HW7.out.st;obtain⟨⟨e0,e1⟩,⟨i0',i1'⟩,he⟩:=HW7.out.en
               go_wp2_with fail
               refine bodyPost_ret (v:=.tuple #[.agg #[.int .u64 0,.int .u64 0,.int .u64 0,.int .u64 0],.agg #[.int .i64 (i:Int),.int .i64 5]]) (by simp [results,Tryz.results139,go_sem,j7,u0,u1,u2,u3,e0,e1]) rfl ⟨by rw [HF.out];simp [kC,j7],?_⟩;exact HW7.out.ret j7 (i:Int) 5
              ·have dba:decide (b<a)=false:=jF hba;have HI:Hid (jB s i=(jL a b,0,j2)):=j0 (by rw [HIT.out,HTO.out,ho2];exact if_neg hba);have HN:=j0 (HR.out.on hg HI.out).1;have hij:=(HR.out.on hg HI.out).2
               have HMM:Hid (∀x,x<256->(uni2 t (jL a b)).mem x=((uni2 t lo).mem x||(decide (a<=x) && decide (x<b+1)))):=j0 (fun x hx=>by
                rw [Ji,Ji,show(jL a b).mem x=decide (a<=x/\x<=b) from Qy a b x hb hx]
                have h1:lo.mem x=decide (x=a):=by
                 by_cases e:x=a
                 ·rw [e,HO.out.2.1];simp
                 ·rw [jF e,<-Bool.not_eq_true];exact fun h=>e (HO.out.2.2 x hx h)
                rw [h1]
                by_cases e:x=a
                ·subst e;have:x<b+1:=by omega
                 simp;omega
                ·by_cases h2:a<=x<;>by_cases h3:x<=b<;>simp [e,h2,h3]<;>omega)
               clear HIT HI HCL HR ho2 HTO HO
               go_wp2_with fail
               refine(ON.out _).mono ?_;rintro e w7 ⟨rfl,hb7⟩;have HW7:=j0 (HW6.out.below hb7);have IB7:=j0 (IB6.out.below hb7);clear hb7 HW6 IB6 z0 z1 z2 z3 hz e0 e1 e2 ON;obtain⟨e0,e1,e2⟩:=vT IB7.out.en;generalize w5.heap.size=b15 at*
               go_wp2_with fail
               go_loopw [18] (fun c wb=>∃m:Nat,a<=m/\m<=b+1/\c=.int .i64 m/\Hid (U8 w wb (fun x=>(uni2 t lo).mem x||(decide (a<=x) && decide (x<m))))/\Hid (ItB wb b15 hi' j2 0)) (fun c _=>b+1-(intOf c).toNat)
               case atStart=>exact⟨a,by omega,by omega,rfl,j0 (HW7.out.congr (fun x _=>by
                by_cases h:a<=x
                ·have:¬x<a:=by omega
                 simp [h,this]
                ·simp [h])),IB7⟩
               case round=>
                clear HW7 IB7 e0 e1 e2;obtain⟨m,ham,hmb,rfl,HB,IB⟩:=hrel
                by_cases hlt:m<=b
                ·have dk:decide (m<=b)=true:=jT hlt;have hm256:m<256:=by omega
                 obtain⟨q0,f0,l0⟩:=HB.out.cell m hm256 rfl
                 have HN2:=j0 (HB.out.set (f':=fun x=>(uni2 t lo).mem x||(decide (a<=x) && decide (x<m+1))) m true (fun x hx=>by
                  by_cases e:x=m
                  ·subst e;simp [ham]
                  ·by_cases h:x<m
                   ·have:x<m+1:=by omega
                    simp [e,h,this]
                   ·have:¬x<m+1:=by omega
                    simp [e,h,this]))
                 have IN2:=j0 (IB.out.put hlt5 (m:=m) (.bool true));generalize ((uni2 t lo).mem m||(decide (a<=m) && decide (m<m)))=y at*
                 go_wp2_with fail
                 go_roundw
                 case rel=>exact⟨m+1,by omega,by omega,by go_num,HN2,IN2⟩
                 case measure=>simp [intOf];omega
                ·obtain rfl:m=b+1:=by omega
                 have dk:decide ((b:Int)+1<=(b:Int))=false:=jF (by omega);have dk2:decide (b+1<=b)=false:=jF (by omega);obtain⟨e0,e1,e2⟩:=vT IB.out.en;have HWN:=j0 (HB.out.congr (f':=(uni2 t (jL a b)).mem) HMM.out)
                 go_wp2_with fail
                 go_roundw
                 case rel=>exact⟨false,j2,uni2 t (jL a b),rfl,rfl,hj2,HN,HWN⟩
                 case measure=>simp [intOf];omega
            ·have HF:Hid (kH s k=(j7,f,j2)):=j0 (by
              have h:=HR.out.bad hg (by rw [HIT.out,HTO.out,if_pos hd0]) hd0;rw [HCL.out,h]
              cases nt<;>simp [hd0])
             clear HIT HCL HR HTO HO;have HW6:=j0 (HW5.out.below (kw _ (jG hi') (vU j2 f)));have IB6:=j0 (ItB.new w5 hi' j2 f);clear HW5 hd0 hp2
             go_wp2_with fail
             obtain⟨W,hW⟩:∃W,W=(w5.alloc (jG hi')).alloc (vU j2 f):=⟨_,rfl⟩;rw [<-hW] at HW6 IB6;change Code.wp _ _ _ _ ((w5.alloc (jG hi')).alloc (vU j2 f));rw [<-hW];clear hW;generalize w5.heap.size=b15 at*;refine Reg.wp_region_S (Vv j2 f) (ErS w (b15+1) j2 f) [0,1,2,3] (by rfl) (by kernel_rfl) (by kernel_rfl) ?_ ?_ ?_
             ·exact⟨HW6.out.st.drewN 1,⟨HW6.out.en.at_,HW6.out.en.free,HW6.out.en.lt⟩,⟨(je.of IB6.out.en).at_,(je.of IB6.out.en).free,(je.of IB6.out.en).lt⟩,by omega,⟨HW6.out.bel.os,HW6.out.bel.tape,HW6.out.bel.output,HW6.out.bel.size,HW6.out.bel.block⟩⟩
             ·refine Reg.oS (fun listed A X hI hin hun hall HS=> ?_) ?_
              ·clear hI hall
               go_simp
               exact⟨rfl,HS.same (by decide)⟩
              refine Reg.oS (fun listed A X hI hin hun hall HS=> ?_) ?_
              ·have e16:=hI.wo 16 rfl;obtain⟨⟨z0,z1⟩,⟨l0,l1⟩,hz⟩:=HS.it;clear hI hall
               go_simp
               exact⟨rfl,HS.same (by decide)⟩
              refine Reg.oS (fun listed A X hI hin hun hall HS=> ?_) ?_
              ·have e4:=hI.wo 4 rfl;have e106:A.tmps[106]? =some (.agg #[.int .u64 0,.int .u64 0,.int .u64 0,.int .u64 0]):=hI.v hall 0 106;obtain⟨⟨u0,u1,u2,u3⟩,⟨v0,v1,v2,v3⟩,hu⟩:=HS.st;have HS3:=j0 HS.put2;clear HS;clear hI hall
               go_simp
               exact⟨rfl,HS3.out⟩
              refine Reg.oS (fun listed A X hI hin hun hall HS=> ?_) ?_
              ·have e5:=hI.wo 5 rfl;have e107:A.tmps[107]? =some (.agg #[.int .i64 (j2:Int),.int .i64 f]):=hI.v hall 1 107;obtain⟨⟨u0,u1⟩,⟨v0,v1⟩,hu⟩:=HS.en;have HS3:=j0 (HS.put3 hin);clear HS;clear hI hall
               go_simp
               exact⟨rfl,HS3.out⟩
              trivial
             ·intro W9 hS;have hst:OwnSet W9 w.heap.size j7:=hS.st;have hen:je W9 (w.heap.size+1) (j2:Int) f:=hS.en;have HB9:=j0 hS.bel;obtain⟨⟨q0,q1,q2,q3⟩,_,_⟩:=hst;obtain⟨⟨m0,m1⟩,_,_⟩:=hen;clear hS;simp [Reg.finalTmps,Reg.dstAt,Reg.valOf,Vv]
              go_wp2_with fail
              refine bodyPost_ret (v:=.tuple #[.agg #[.int .u64 0,.int .u64 0,.int .u64 0,.int .u64 0],.agg #[.int .i64 (j2:Int),.int .i64 f]]) (by simp [results,Tryz.results139,go_sem,j7,q0,q1,q2,q3,m0,m1]) rfl ⟨by rw [HF.out];simp [kC,j7],HB9.out⟩
          ·rw [jF h45];have HI:Hid (jB s i=(lo,0,j)):=j0 (by rw [HIT.out,if_pos (.inr h45)]);have HN:=j0 (HR.out.on hg HI.out).1;have hij:=(HR.out.on hg HI.out).2;have HWN:=HB;clear h45 HIT HI HCL HR
           go_wp2_with fail
           go_roundw
           case rel=>exact⟨false,j,uni2 t lo,rfl,rfl,hj,HN,HWN⟩
           case measure=>simp [intOf];omega
      ·have HF:Hid (kH s k=(j7,c,j)):=j0 (by
        have h:=HR.out.bad hg (by rw [HIT.out,if_pos (.inl hc0)]) hc0;rw [HCL.out,h]
        cases nt<;>simp [hc0])
       have hlt2:=HW2.out.lt;have HW3:=j0 (HW2.out.below (kw _ (jG lo) (vU j c)));have IB3:=j0 (ItB.new w2 lo j c);clear HCL HR HIT HW HW2 hc0 IT
       go_wp2_with fail
       obtain⟨W,hW⟩:∃W,W=(w2.alloc (jG lo)).alloc (vU j c):=⟨_,rfl⟩;rw [<-hW] at HW3 IB3;change Code.wp _ _ _ _ ((w2.alloc (jG lo)).alloc (vU j c));rw [<-hW];clear hW;generalize w2.heap.size=b11 at*;refine Reg.wp_region_S (Vv j c) (ErS w (b11+1) j c) [0,1,2,3] (by rfl) (by kernel_rfl) (by kernel_rfl) ?_ ?_ ?_
       ·exact⟨HW3.out.st.drewN 1,⟨HW3.out.en.at_,HW3.out.en.free,HW3.out.en.lt⟩,⟨(je.of IB3.out.en).at_,(je.of IB3.out.en).free,(je.of IB3.out.en).lt⟩,by omega,⟨HW3.out.bel.os,HW3.out.bel.tape,HW3.out.bel.output,HW3.out.bel.size,HW3.out.bel.block⟩⟩
       ·refine Reg.oS (fun listed A X hI hin hun hall HS=> ?_) ?_
        ·clear hI hall
         go_simp
         exact⟨rfl,HS.same (by decide)⟩
        refine Reg.oS (fun listed A X hI hin hun hall HS=> ?_) ?_
        ·have e12:=hI.wo 12 rfl;obtain⟨⟨z0,z1⟩,⟨l0,l1⟩,hz⟩:=HS.it;clear hI hall
         go_simp
         exact⟨rfl,HS.same (by decide)⟩
        refine Reg.oS (fun listed A X hI hin hun hall HS=> ?_) ?_
        ·have e4:=hI.wo 4 rfl;have e59:A.tmps[59]? =some (.agg #[.int .u64 0,.int .u64 0,.int .u64 0,.int .u64 0]):=hI.v hall 0 59;obtain⟨⟨u0,u1,u2,u3⟩,⟨v0,v1,v2,v3⟩,hu⟩:=HS.st;have HS3:=j0 HS.put2;clear HS;clear hI hall
         go_simp
         exact⟨rfl,HS3.out⟩
        refine Reg.oS (fun listed A X hI hin hun hall HS=> ?_) ?_
        ·have e5:=hI.wo 5 rfl;have e60:A.tmps[60]? =some (.agg #[.int .i64 (j:Int),.int .i64 c]):=hI.v hall 1 60;obtain⟨⟨u0,u1⟩,⟨v0,v1⟩,hu⟩:=HS.en;have HS3:=j0 (HS.put3 hin);clear HS;clear hI hall
         go_simp
         exact⟨rfl,HS3.out⟩
        trivial
       ·intro W9 hS;have hst:OwnSet W9 w.heap.size j7:=hS.st;have hen:je W9 (w.heap.size+1) (j:Int) c:=hS.en;have HB9:=j0 hS.bel;obtain⟨⟨q0,q1,q2,q3⟩,_,_⟩:=hst;obtain⟨⟨m0,m1⟩,_,_⟩:=hen;clear hS;simp [Reg.finalTmps,Reg.dstAt,Reg.valOf,Vv]
        go_wp2_with fail
        refine bodyPost_ret (v:=.tuple #[.agg #[.int .u64 0,.int .u64 0,.int .u64 0,.int .u64 0],.agg #[.int .i64 (j:Int),.int .i64 c]]) (by simp [results,Tryz.results139,go_sem,j7,q0,q1,q2,q3,m0,m1]) rfl ⟨by rw [HF.out];simp [kC,j7],HB9.out⟩
end Go.Proofs.YtnmalggmbeipaaaGreatDoor
