/- A part of the proof. -/
import Derived.Test.YtnmalggmbeipaaaGreatDoorCoA
set_option maxRecDepth 100000
set_option maxHeartbeats 16000000
namespace Go.Proofs.YtnmalggmbeipaaaGreatDoor
section
open Go Go.RowKit
attribute [local go_sem ↓] Go.wp_at_zero Go.wp_at_succ
attribute [local go_sem] qX
def k9(k:Int)(c:Co):Co->Co
 | .nil=>c
 |b=>.node k j7 false c b
theorem joinC_nil(k:Int)(c:Co):k9 k c .nil=c:=rfl
theorem yA(k:Int)(c b:Co)(h:b≠ .nil):k9 k c b=.node k j7 false c b:=by
 cases b with
 |nil=>exact absurd rfl h
 |node=>rfl
def yD:Co:=.node 0 j7 false .nil .nil
def allW:W4:=⟨nt 0,nt 0,nt 0,nt 0⟩
def qy(z:Bool)(c:Co):Co:=if z then .node 3 j7 false yD c else .node 3 j7 false c yD
def restC:Co:=.node 4 j7 true (.node 1 allW false .nil .nil) .nil
theorem vA(k:Int)(w:World):Calls Tryz.prog 101 #[.int .i64 k] w fun e w'=>e=.returned (.func (.func 151) #[] #[.pointer (some ⟨w.heap.size,0,none⟩)])/\w'=w.alloc (.cells #[.int .i64 k] 3):=by
 go_enter Tryz.func101,Tryz.ntmps101
 go_wp2_with fail
 go_ret
 exact⟨rfl,rfl⟩
theorem Jb(args:Array Value)(W:World):(callFunc 151 args).run Tryz.prog W=.ok (.enter 151 args) W:=by
 simp [callFunc,go_sem,Tryz.func151];rfl
theorem cjoined1_any(k:Int)(kb:Nat)(c b:Co)(vc vb:Value)(w:World)(hk:w.cell? ⟨kb,0,none⟩=some (.int .i64 k))(hc:jD w c vc)(hb:jD w b vb):
  Calls Tryz.prog 151 #[vc,vb,.pointer (some ⟨kb,0,none⟩)] w fun e w'=>∃v,e=.returned v/\jD w' (k9 k c b) v/\Below w.heap.size w w':=by
 obtain⟨pc,rfl⟩:=hc.ptr
 rcases hb.nil_iff with ⟨rfl,rfl⟩|⟨hn,q,rfl⟩
 ·have HC:=j0 hc;clear hc hb
  go_enter Tryz.func151,Tryz.ntmps151
  go_wp2_with fail
  go_ret
  exact⟨_,rfl,HC.out,Below.refl _ _⟩
 ·have HN:=j0 (jD.new (k:=k) (s:=j7) (z:=false) hc hb);have HJ:=j0 (yA k c b hn);have HB:=j0 (j3 w (yH k j7 false (.pointer pc) (.pointer (some ⟨q,0,none⟩))));clear hc hb hn
  go_enter Tryz.func151,Tryz.ntmps151
  go_wp2_with fail
  go_ret
  exact⟨_,rfl,by rw [HJ.out];exact HN.out,HB.out⟩
theorem yC(w:World):jD (w.alloc (yH 0 j7 false (.pointer none) (.pointer none))) yD (.pointer (some ⟨w.heap.size,0,none⟩)):=jD.new .nil .nil
theorem XW(z:Bool)(c:Co)(vc:Value)(w:World)(hc:jD w c vc):
  Calls Tryz.prog 202 #[vc,.bool z] w fun e w'=>∃v,e=.returned v/\jD w' (qy z c) v/\Below w.heap.size w w':=by
 obtain⟨pc,rfl⟩:=hc.ptr;have b1:=j3 w (yH 0 j7 false (.pointer none) (.pointer none));have c1:=hc.up b1
 cases z with
 |true=>
  have n1:=jD.new (k:=3) (s:=j7) (z:=false) (yC w) c1;rw [World.size_alloc] at n1;have HN:=j0 n1;clear n1;have HB:=j0 (b1.trans ((j3 _ (yH 3 j7 false (.pointer (some ⟨w.heap.size,0,none⟩)) (.pointer pc))).mono b1.size));clear hc b1 c1
  go_enter Tryz.func202,Tryz.ntmps202
  go_wp2_with fail
  go_ret
  exact⟨_,rfl,HN.out,HB.out⟩
 |false=>
  have n1:=jD.new (k:=3) (s:=j7) (z:=false) c1 (yC w);rw [World.size_alloc] at n1;have HN:=j0 n1;clear n1;have HB:=j0 (b1.trans ((j3 _ (yH 3 j7 false (.pointer pc) (.pointer (some ⟨w.heap.size,0,none⟩)))).mono b1.size));clear hc b1 c1
  go_enter Tryz.func202,Tryz.ntmps202
  go_wp2_with fail
  go_ret
  exact⟨_,rfl,HN.out,HB.out⟩
theorem crest_any(w:World):Calls Tryz.prog 102 #[] w fun e w'=>∃v,e=.returned v/\jD w' restC v/\Below w.heap.size w w':=by
 have AL:=j0 (all_any w)
 go_enter Tryz.func102,Tryz.ntmps102
 go_wp2_with fail
 refine AL.out.mono ?_;rintro e w1 ⟨rfl,h1⟩;have n1:jD (w1.alloc (yH 1 allW false (.pointer none) (.pointer none))) (.node 1 allW false .nil .nil) (.pointer (some ⟨w1.heap.size,0,none⟩)):=jD.new .nil .nil;have n2:=jD.new (k:=4) (s:=j7) (z:=true) n1 .nil;rw [World.size_alloc] at n2;have b1:=j3 w1 (yH 1 allW false (.pointer none) (.pointer none));have b2:=h1.trans ((b1.trans ((j3 _ (yH 4 j7 true (.pointer (some ⟨w1.heap.size,0,none⟩)) (.pointer none))).mono b1.size)).mono h1.size);have HN:=j0 n2;have HB:=j0 b2;clear n1 n2 b1 b2 h1 AL
 go_wp2_with fail
 go_ret
 exact⟨_,rfl,HN.out,HB.out⟩
def UC(m:Int)(c:Co):Co:=if m=1 then k9 2 c restC else if m=2 then k9 2 restC c else if m=3 then k9 2 restC (k9 2 c restC) else c
theorem QC(k:Int)(c b:Co)(h:c≠ .nil):k9 k c b≠ .nil:=by
 cases b with
 |nil=>exact h
 |node=>exact Co.noConfusion
theorem cby_any(m:Int)(c:Co)(vc:Value)(w:World)(hc:jD w c vc):
  Calls Tryz.prog 57 #[.int .i64 m,vc] w fun e w'=>∃v,e=.returned v/\jD w' (UC m c) v/\Below w.heap.size w w':=by
 have J0:=j0 (vA 2 w);obtain⟨w1,hw1⟩:∃X,X=w.alloc (.cells #[.int .i64 2] 3):=⟨_,rfl⟩;have b1:Below w.heap.size w w1:=by rw [hw1];exact j3 w _
 have k1:w1.heap[w.heap.size]? =some (.cells #[.int .i64 2] 3):=by rw [hw1];exact j1 w _
 rw [<-hw1] at J0;have HW1:=j0 hw1;have HC1:=j0 (hc.up b1);have HK1:=j0 k1;have HB1:=j0 b1
 have JO:=j0 (fun(X:World) (hX:Below w1.heap.size w1 X) (c b:Co) (vc vb:Value) (hc:jD X c vc) (hb:jD X b vb)=>
  cjoined1_any 2 w.heap.size c b vc vb X ((jC (j4 hX k1) 0).trans rfl) hc hb)
 have RS:=j0 crest_any;obtain⟨res,hres⟩:∃r,r=UC m c:=⟨_,rfl⟩;rw [<-hres];have HRES:=j0 hres;clear hw1 b1 k1 hc hres
 by_cases h1:m=1
 ·subst h1;have HR:Hid (res=k9 2 c restC):=j0 (by rw [HRES.out];rfl)
  go_enter Tryz.func57,Tryz.ntmps57
  go_wp2_with fail
  refine J0.out.mono ?_;rintro e wx ⟨rfl,rfl⟩
  go_wp2_with fail
  refine(RS.out wx).mono ?_;rintro e w2 ⟨v2,rfl,c2,b2⟩;have HB2:=j0 b2;have HC2:=j0 c2;clear b2 c2
  go_wp2_with fail
  refine(JO.out w2 HB2.out c restC _ _ (HC1.out.up HB2.out) HC2.out).mono ?_;rintro e w3 ⟨v3,rfl,c3,b3⟩;have HB3:=j0 (HB1.out.trans ((HB2.out.trans (b3.mono HB2.out.size)).mono HB1.out.size));have HC3:=j0 c3;clear b3 c3
  go_wp2_with fail
  go_ret
  exact⟨_,rfl,by rw [HR.out];exact HC3.out,HB3.out⟩
 have q1:((m:Int)==1)=false:=by simpa using h1
 by_cases h2:m=2
 ·subst h2;have HR:Hid (res=k9 2 restC c):=j0 (by rw [HRES.out];rfl);clear h1
  go_enter Tryz.func57,Tryz.ntmps57
  go_wp2_with fail
  refine J0.out.mono ?_;rintro e wx ⟨rfl,rfl⟩
  go_wp2_with fail
  refine(RS.out wx).mono ?_;rintro e w2 ⟨v2,rfl,c2,b2⟩;have HB2:=j0 b2;have HC2:=j0 c2;clear b2 c2
  go_wp2_with fail
  refine(JO.out w2 HB2.out restC c _ _ HC2.out (HC1.out.up HB2.out)).mono ?_;rintro e w3 ⟨v3,rfl,c3,b3⟩;have HB3:=j0 (HB1.out.trans ((HB2.out.trans (b3.mono HB2.out.size)).mono HB1.out.size));have HC3:=j0 c3;clear b3 c3
  go_wp2_with fail
  go_ret
  exact⟨_,rfl,by rw [HR.out];exact HC3.out,HB3.out⟩
 have q2:((m:Int)==2)=false:=by simpa using h2
 by_cases h3:m=3
 ·subst h3;have HR:Hid (res=k9 2 restC (k9 2 c restC)):=j0 (by rw [HRES.out];rfl);clear h1 h2
  go_enter Tryz.func57,Tryz.ntmps57
  go_wp2_with fail
  refine J0.out.mono ?_;rintro e wx ⟨rfl,rfl⟩
  go_wp2_with fail
  refine(RS.out wx).mono ?_;rintro e w2 ⟨v2,rfl,c2,b2⟩;have HB2:=j0 b2;have HC2:=j0 c2;clear b2 c2
  go_wp2_with fail
  refine(RS.out w2).mono ?_;rintro e w3 ⟨v3,rfl,c3,b3⟩;have HB3:=j0 (HB2.out.trans (b3.mono HB2.out.size));have HC2':=j0 (HC2.out.up b3);have HC3:=j0 c3;clear b3 c3
  go_wp2_with fail
  refine(JO.out w3 HB3.out c restC _ _ (HC1.out.up HB3.out) HC3.out).mono ?_;rintro e w4 ⟨v4,rfl,c4,b4⟩;have HB4:=j0 (HB3.out.trans (b4.mono HB3.out.size));have HC4':=j0 (HC2'.out.up b4);have HC4:=j0 c4;clear b4 c4
  go_wp2_with fail
  refine(JO.out w4 HB4.out restC _ _ _ HC4'.out HC4.out).mono ?_;rintro e w5 ⟨v5,rfl,c5,b5⟩;have HB5:=j0 (HB1.out.trans ((HB4.out.trans (b5.mono HB4.out.size)).mono HB1.out.size));have HC5:=j0 c5;clear b5 c5
  go_wp2_with fail
  go_ret
  exact⟨_,rfl,by rw [HR.out];exact HC5.out,HB5.out⟩
 have q3:((m:Int)==3)=false:=by simpa using h3
 have HR:Hid (res=c):=j0 (by rw [HRES.out];unfold UC;rw [if_neg h1,if_neg h2,if_neg h3]);clear h1 h2 h3
 go_enter Tryz.func57,Tryz.ntmps57
 go_wp2_with fail
 refine J0.out.mono ?_;rintro e wx ⟨rfl,rfl⟩
 go_wp2_with fail
 go_ret
 exact⟨_,rfl,by rw [HR.out];exact HC1.out,HB1.out⟩
end
end Go.Proofs.YtnmalggmbeipaaaGreatDoor
