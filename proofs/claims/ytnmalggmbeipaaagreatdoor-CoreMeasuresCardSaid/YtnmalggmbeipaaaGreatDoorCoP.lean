/- A part of the proof. -/
import Derived.Test.YtnmalggmbeipaaaGreatDoorCoN
import Derived.Test.YtnmalggmbeipaaaGreatDoorPbU
set_option maxRecDepth 100000
set_option maxHeartbeats 16000000
namespace Go.Proofs.YtnmalggmbeipaaaGreatDoor
section
open Go Go.RowKit
attribute [local go_sem ↓] Go.wp_at_zero Go.wp_at_succ
attribute [local go_sem] qX
theorem vr{k:Int}(hk:k≠6)(s:W4)(lo hi:Int)(z:Bool)(a b:Nat){l:List Tr}(hl:0<l.length):qt (.mk k s lo hi z a b l)=ve ((l.length:Int)-1) (l.map qt):=by
 rw [qt,xe];unfold szK;rw [if_neg (fun e=>by rw [List.map_eq_nil_iff] at e;subst e;simp at hl),if_neg hk,List.length_map]
theorem cof_any{t:Tr}(h:zu t):jc t<=1000000000->OfC t:=by
 induction h with
 |empty a b=>exact fun _=>zG 0 j7 0 0 false a b [] (by simp) (fun h=>absurd h (by simp))
 |set s a b hs=>exact fun _=>zG 1 s 0 0 false a b [] (by simp) (fun h=>absurd h (by simp))
 |group k a b u hk hu ih=>
  intro hz;rw [jc,jz,jz] at hz;refine zG k j7 0 0 false a b [u] (by simp) (fun hl AA q mb w hN hmb hM=> ?_);rw [vr (by rcases hk with rfl|rfl<;>decide) _ _ _ _ _ _ hl];exact Kh k (by rcases hk with rfl|rfl<;>decide) j7 0 0 false a b [u] (fun x hx=>by obtain rfl:x=u:=(by simpa using hx);exact ih (by omega)) hl (by simp) (fun x hx=>by obtain rfl:x=u:=(by simpa using hx);exact(xH _ (by omega)).2) AA q mb w hN hmb hM
 |cat a b l hl hi h ih=>
  intro hz;rw [jc] at hz;have hsl:=kZ l;refine zG 4 j7 0 0 false a b l (by omega) (fun hl AA q mb w hN hmb hM=> ?_);rw [vr (by decide) _ _ _ _ _ _ hl];exact Kh 4 (by decide) j7 0 0 false a b l (fun x hx=>ih x hx (by have:=jZ hx;omega)) hl (by omega) (fun x hx=>(xH _ (by have:=jZ hx;omega)).2) AA q mb w hN hmb hM
 |alt a b l hl hi h ih=>
  intro hz;rw [jc] at hz;have hsl:=kZ l;refine zG 5 j7 0 0 false a b l (by omega) (fun hl AA q mb w hN hmb hM=> ?_);rw [vr (by decide) _ _ _ _ _ _ hl];exact Kh 5 (by decide) j7 0 0 false a b l (fun x hx=>ih x hx (by have:=jZ hx;omega)) hl (by omega) (fun x hx=>(xH _ (by have:=jZ hx;omega)).2) AA q mb w hN hmb hM
 |rep lo hi z a b u hc hu h ih=>
  intro hz;rw [jc,jz,jz] at hz
  obtain⟨h1,h2,h3⟩:0<=lo/\lo<=qM hi/\qM hi<=1000:=by
   unfold kS at hc;simpa using hc
  have hh:hi= -1\/(lo<=hi/\hi<=1000):=by
   by_cases hm:hi= -1
   ·exact .inl hm
   ·right
    unfold qM at h2 h3;rw [if_neg hm] at h2 h3;exact⟨h2,h3⟩
  refine zG 6 j7 lo hi z a b [u] (by simp) (fun hl AA q mb w hN hmb hM=> ?_)
  have e:qt (.mk 6 j7 lo hi z a b [u])=qQ (qt u) lo hi:=by
   rw [qt,xe];rfl
  rw [e];exact made_rep j7 lo hi z a b u (ih (by omega)) ⟨h1,by omega⟩ hh (xH _ (by omega)).2 AA q mb w hN hmb hM
theorem JF(xs:List Int)(x:Int)(h:1<=x):1<=kL (xs++ [x]):=by
 unfold kL;rw [List.foldl_append]
 show 1<=pl _ x
 generalize xs.foldl pl 0=a;unfold pl sat;have:=yI a;have:zM x=x:=qY (by omega)
 split
 ·omega
 ·unfold top;omega
theorem QS(a:Int)(xs:List Int)(h:xs≠ [])(hx:∀x∈xs,1<=x):1<=ve a xs:=by
 obtain⟨ys,y,rfl⟩:∃ys y,xs=ys++ [y]:=⟨_,_,(List.dropLast_concat_getLast h).symm⟩;unfold ve;rw [List.foldl_append];exact JF [_] y (hx y (by simp))
theorem xx{t:Tr}(h:zu t):1<=qt t:=by
 induction h with
 |empty a b=>rw [qt,Yx];decide
 |set s a b hs=>rw [qt,Yx];unfold szK;rw [if_pos rfl];omega
 |group k a b u hk hu ih=>
  rw [vr (by rcases hk with rfl|rfl<;>decide) _ _ _ _ _ _ (by simp)];exact QS _ _ (by simp) (fun x hx=>by obtain rfl:x=qt u:=(by simpa using hx);exact ih)
 |cat a b l hl hi h ih=>
  rw [vr (by decide) _ _ _ _ _ _ (by omega)];exact QS _ _ (by rw [Ne,List.map_eq_nil_iff];intro e;subst e;simp at hl) (fun x hx=>by obtain⟨u,hu,rfl⟩:=List.mem_map.1 hx;exact ih u hu)
 |alt a b l hl hi h ih=>
  rw [vr (by decide) _ _ _ _ _ _ (by omega)];exact QS _ _ (by rw [Ne,List.map_eq_nil_iff];intro e;subst e;simp at hl) (fun x hx=>by obtain⟨u,hu,rfl⟩:=List.mem_map.1 hx;exact ih u hu)
 |rep lo hi z a b u hc hu h ih=>
  have e:qt (.mk 6 j7 lo hi z a b [u])=qQ (qt u) lo hi:=by
   rw [qt,xe];rfl
  rw [e];unfold qQ
  split
  ·exact JF [_,_] 1 (by omega)
  ·split
   ·omega
   ·split
    ·exact JF [_] _ ih
    ·exact JF [_,_,_] 2 (by omega)
def xZ(m:Int):Int:=if m=0 then 0 else if m=3 then 6 else 3
theorem zr(m:Int)(w:World)(h:0<=m/\m<4):Calls Tryz.prog 32 #[.int .i64 m] w fun e w'=>e=.returned (.bool true)/\w=w':=by
 obtain⟨h1,h2⟩:=h
 go_enter Tryz.func32,Tryz.ntmps32
 go_wp2_with fail
 go_ret
 exact⟨rfl,rfl⟩
theorem Zs(m:Int)(w:World)(h:¬(0<=m/\m<4)):Calls Tryz.prog 32 #[.int .i64 m] w fun e w'=>e=.returned (.bool false)/\w=w':=by
 by_cases h0:0<=m
 ·have h1:decide ((m:Int)<4)=false:=jF (by omega);clear h
  go_enter Tryz.func32,Tryz.ntmps32
  go_wp2_with fail
  go_ret
  exact⟨rfl,rfl⟩
 ·have h1:decide ((0:Int)<=m)=false:=jF (by omega);clear h h0
  go_enter Tryz.func32,Tryz.ntmps32
  go_wp2_with fail
  go_ret
  exact⟨rfl,rfl⟩
theorem VD(m:Int)(w:World)(h:0<=m/\m<4):Calls Tryz.prog 56 #[.int .i64 m] w fun e w'=>e=.returned (.int .i64 (xZ m))/\Below w.heap.size w w':=by
 have hm:m=0\/m=1\/m=2\/m=3:=by omega
 clear h
 rcases hm with rfl|rfl|rfl|rfl
 ·have hix:(Instr.index 186 (.agg #[.int .i64 0,.int .i64 1,.int .i64 1,.int .i64 2]) (.int .i64 0)).run Tryz.prog w=.ok (.int .i64 0) w:=by kernel_rfl
  go_enter Tryz.func56,Tryz.ntmps56
  go_wp2_with fail
  go_ret
  exact⟨rfl,Below.refl _ _⟩
 ·have hix:(Instr.index 186 (.agg #[.int .i64 0,.int .i64 1,.int .i64 1,.int .i64 2]) (.int .i64 1)).run Tryz.prog w=.ok (.int .i64 1) w:=by kernel_rfl
  go_enter Tryz.func56,Tryz.ntmps56
  go_wp2_with fail
  go_ret
  exact⟨rfl,Below.refl _ _⟩
 ·have hix:(Instr.index 186 (.agg #[.int .i64 0,.int .i64 1,.int .i64 1,.int .i64 2]) (.int .i64 2)).run Tryz.prog w=.ok (.int .i64 1) w:=by kernel_rfl
  go_enter Tryz.func56,Tryz.ntmps56
  go_wp2_with fail
  go_ret
  exact⟨rfl,Below.refl _ _⟩
 ·have hix:(Instr.index 186 (.agg #[.int .i64 0,.int .i64 1,.int .i64 1,.int .i64 2]) (.int .i64 3)).run Tryz.prog w=.ok (.int .i64 2) w:=by kernel_rfl
  go_enter Tryz.func56,Tryz.ntmps56
  go_wp2_with fail
  go_ret
  exact⟨rfl,Below.refl _ _⟩
theorem adL_two(x y:Int)(hx:1<=x)(hy:0<=y):1<=kL [x,y]:=by
 show 1<=pl (pl 0 x) y
 have h0:zM 0=0:=rfl;have h1:zM x=x:=qY (by omega);have h2:zM y=y:=qY hy
 have h3:1<=pl 0 x:=by
  unfold pl sat;rw [h0,h1]
  split
  ·omega
  ·unfold top;omega
 have h4:zM (pl 0 x)=pl 0 x:=qY (by omega);generalize pl 0 x=a at*;unfold pl sat;rw [h4,h2]
 split
 ·omega
 ·unfold top;omega
theorem JD(m:Int):0<=xZ m/\xZ m<=6:=by
 unfold xZ
 split
 ·omega
 ·split<;>omega
theorem KI(m:Int)(hm:0<=m/\m<4){t:Tr}(hR:zu t)(hr:jW qj t<=200)(hz:jc t<=1000000000)(A:Nat->Prop)(q:Nat)(w:World)(hN:jJ w A t (j6 q)):
  Calls Tryz.prog 19 #[j6 q,.int .i64 m] w fun e w'=>e=.returned (.int .i64 (kL [qt t,xZ m]))/\Below w.heap.size w w':=by
 have hN':jJ w (fun b=>b<w.heap.size) t (j6 q):=hN.mono (fun b hb _=>hb);have RI:=YB A t q w hN (by omega);rw [jT hr] at RI;have HRI:=j0 RI;have HIM:=j0 (zr m w hm);have HOF:=j0 (cof_any hR hz);have HAB:=j0 (fun X=>VD m X hm);have HN:=j0 hN';have HBD:=j0 (And.intro (xH t hz).2 (show xZ m<=top by have:=(JD m).2;unfold top;omega));have hmm:= @run_makeMap Tryz.prog;obtain⟨sz,hs⟩:∃sz,qt t=sz:=⟨_,rfl⟩;obtain⟨am,ha⟩:∃am,xZ m=am:=⟨_,rfl⟩;have HS:=j0 hs;have HA:=j0 ha;rw [hs,ha] at HBD ⊢;clear hN hN' RI hm hR hr hz hs ha
 go_enter Tryz.func19,Tryz.ntmps19
 go_wp2_with fail
 refine HIM.out.mono ?_;rintro e wx ⟨rfl,rfl⟩
 go_wp2_with fail
 refine HRI.out.mono ?_;rintro e w2 ⟨rfl,hb2⟩;have HB2:=j0 hb2;clear hb2 HIM HRI;obtain⟨w3,hw3⟩:∃X,X=w2.alloc (.map #[] 0):=⟨_,rfl⟩;have b3:Below w2.heap.size w2 w3:=by rw [hw3];exact j3 _ _
 have HB3:=j0 (HB2.out.trans (b3.mono HB2.out.size));have hmp:w3.heap[w2.heap.size]? =some (.map #[] 0):=by rw [hw3];exact j1 w2 _
 have HO:=j0 (HOF.out (fun b=>b<w.heap.size) q w2.heap.size w3 (HN.out.up HB3.out) (fun b hb=>by have:=HB2.out.size;omega) ⟨[],⟨#[],0,hmp,rfl⟩,fun p hp=>by cases hp⟩);clear hmp b3
 go_wp2_with fail
 clear hmm;rw [<-hw3];clear hw3;refine HO.out.mono ?_;rintro e w4 ⟨he,g4,_⟩;rw [HS.out] at he;subst he;have HB4:=j0 (HB3.out.grown g4 HB3.out.size (fun k e=>by cases e;exact HB2.out.size));clear g4 HO
 go_wp2_with fail
 refine(HAB.out w4).mono ?_;rintro e w5 ⟨he,hb5⟩;rw [HA.out] at he;subst he;have HB5:=j0 (HB4.out.trans (hb5.mono HB4.out.size));clear hb5;obtain⟨w6,hw6⟩:∃Y,Y=w5.alloc (.cells #[.int .i64 sz,.int .i64 am] 3):=⟨_,rfl⟩;have b6:Below w5.heap.size w5 w6:=by rw [hw6];exact j3 _ _
 have K6:=j0 (xY w5.heap.size 2 [sz,am] w6 (by simp) (fun z hz=>by
  simp only [List.mem_cons,List.not_mem_nil,or_false] at hz
  rcases hz with h|h
  ·rw [h];exact HBD.out.1
  ·rw [h];exact HBD.out.2
  ) (by rw [hw6];exact j1 w5 _))
 have HB6:=j0 (HB5.out.trans (b6.mono HB5.out.size));clear b6
 go_wp2_with fail
 rw [<-hw6];clear hw6;refine K6.out.mono ?_;rintro e wz ⟨rfl,hz⟩;obtain rfl:w6=wz:=hz;clear K6
 go_wp2_with fail
 go_ret
 exact⟨rfl,HB6.out⟩
theorem yJ(m:Int)(hm:¬(0<=m/\m<4))(p:Option Addr)(w:World):
  Calls Tryz.prog 19 #[.pointer p,.int .i64 m] w fun e w'=>e=.returned (.int .i64 0)/\Below w.heap.size w w':=by
 have HIM:=j0 (Zs m w hm);clear hm
 go_enter Tryz.func19,Tryz.ntmps19
 go_wp2_with fail
 refine HIM.out.mono ?_;rintro e wx ⟨rfl,rfl⟩
 go_wp2_with fail
 go_ret
 exact⟨rfl,Below.refl _ _⟩
theorem VB(m:Int)(hm:0<=m/\m<4)(w:World):
  Calls Tryz.prog 19 #[.pointer none,.int .i64 m] w fun e w'=>e=.returned (.int .i64 0)/\Below w.heap.size w w':=by
 have HIM:=j0 (zr m w hm);have HRI:=j0 (YA w);clear hm
 go_enter Tryz.func19,Tryz.ntmps19
 go_wp2_with fail
 refine HIM.out.mono ?_;rintro e wx ⟨rfl,rfl⟩
 go_wp2_with fail
 refine HRI.out.mono ?_;rintro e w2 ⟨rfl,hb2⟩;have HB2:=j0 hb2;clear hb2
 go_wp2_with fail
 go_ret
 exact⟨rfl,HB2.out⟩
theorem UB(m:Int)(p:Option Addr)(w:World)(hM:Calls Tryz.prog 19 #[.pointer p,.int .i64 m] w fun e w'=>e=.returned (.int .i64 0)/\Below w.heap.size w w'):
  Calls Tryz.prog 20 #[.pointer p,.int .i64 m] w fun e w'=>e=.returned (.tuple #[.pointer none,.int .i64 1])/\Below w.heap.size w w':=by
 have HM:=j0 hM;clear hM
 go_enter Tryz.func20,Tryz.ntmps20
 go_wp2_with fail
 refine HM.out.mono ?_;rintro e w2 ⟨rfl,hb2⟩;have HB2:=j0 hb2;clear hb2
 go_wp2_with fail
 go_ret2
 exact⟨rfl,HB2.out⟩
def VH(_w w':World)(m:Int)(t:Tr)(v:Value)(e:Int):Prop:=
 (4096<kL [qt t,xZ m]/\v=.pointer none/\e=3)\/(kL [qt t,xZ m]<=4096/\e=0/\jD w' (UC m (jo t)) v)
theorem UA(m:Int)(hm:0<=m/\m<4){t:Tr}(hR:zu t)(hr:jW qj t<=200)(hz:jc t<=1000000000)(A:Nat->Prop)(q:Nat)(w:World)(hN:jJ w A t (j6 q)):
  Calls Tryz.prog 20 #[j6 q,.int .i64 m] w fun x w'=>∃v e,x=.returned (.tuple #[v,.int .i64 e])/\VH w w' m t v e/\Below w.heap.size w w':=by
 have HM:=j0 (KI m hm hR hr hz A q w hN);have HBU:=j0 (fun(X:World) (hX:Below w.heap.size w X)=>build_any hR hz A q X (hN.up hX));have HBY:=j0 (fun(X:World) (v:Value) (h:jD X (jo t) v)=>cby_any m (jo t) v X h);have h1:=adL_two (qt t) (xZ m) (xx hR) (JD m).1;have HBC:=j0 (fun(w':World) (v:Value) (e:Int)=>show VH w w' m t v e=((4096<kL [qt t,xZ m]/\v=.pointer none/\e=3)\/(kL [qt t,xZ m]<=4096/\e=0/\jD w' (UC m (jo t)) v)) from rfl);generalize kL [qt t,xZ m]=M at*;have q0:((M:Int)==0)=false:=by simp;omega
 clear hN hR hr hz hm
 by_cases hg:4096<M
 ·have HG:=j0 hg
  go_enter Tryz.func20,Tryz.ntmps20
  go_wp2_with fail
  refine HM.out.mono ?_;rintro e w2 ⟨rfl,hb2⟩;have HB2:=j0 hb2;clear hb2
  go_wp2_with fail
  go_ret2
  exact⟨_,_,rfl,by rw [HBC.out];exact .inl ⟨HG.out,rfl,rfl⟩,HB2.out⟩
 ·have HG:=j0 (show M<=4096 by omega);have h4:M<=4096:=by omega
  clear hg
  go_enter Tryz.func20,Tryz.ntmps20
  go_wp2_with fail
  refine HM.out.mono ?_;rintro e w2 ⟨rfl,hb2⟩;have HB2:=j0 hb2;clear hb2
  go_wp2_with fail
  refine(HBU.out w2 HB2.out).mono ?_;rintro e w3 ⟨v3,rfl,hc3,hb3⟩;have HB3:=j0 (HB2.out.trans (hb3.mono HB2.out.size));have HC3:=j0 hc3;clear hb3 hc3
  go_wp2_with fail
  refine(HBY.out w3 v3 HC3.out).mono ?_;rintro e w4 ⟨v4,rfl,hc4,hb4⟩;have HB4:=j0 (HB3.out.trans (hb4.mono HB3.out.size));have HC4:=j0 hc4;clear hb4 hc4
  go_wp2_with fail
  go_ret2
  exact⟨_,_,rfl,by rw [HBC.out];exact .inr ⟨HG.out,rfl,HC4.out⟩,HB4.out⟩
end
end Go.Proofs.YtnmalggmbeipaaaGreatDoor
