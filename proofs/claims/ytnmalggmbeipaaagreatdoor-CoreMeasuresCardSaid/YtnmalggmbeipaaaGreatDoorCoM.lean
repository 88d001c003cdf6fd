/- A part of the proof. -/
import Derived.Test.YtnmalggmbeipaaaGreatDoorCoG
set_option maxRecDepth 100000
set_option maxHeartbeats 16000000
namespace Go.Proofs.YtnmalggmbeipaaaGreatDoor
section
open Go Go.RowKit
attribute [local go_sem ↓] Go.wp_at_zero Go.wp_at_succ
attribute [local go_sem] qX
theorem lookup_sz{w:World}{b q:Nat}{D:List (Nat×Int)}(h:qH w b D)(hq:Je w q)(hD:∀p∈D,Je w p.1):
  (Instr.lookup 117 (.map (some b)) (j6 q) true).run Tryz.prog w=.ok (.tuple #[.int .i64 (gotD D q).1,.bool (gotD D q).2]) w:=by
 obtain⟨es,clock,hb,he⟩:=h;have hz:(zeroValue 3).run Tryz.prog w=.ok (.int .i64 0) w:=by kernel_rfl
 have hf:=xE q w es.toList D hq hD he;unfold Instr.lookup;simp only [Sem.run_bind,run_underlying Tryz.underlying117,Result.andThen_ok,Sem.run_pure,MapKept.run_getObj_map hb,vV,hf]
 rcases Jv D q 0 with ⟨h1,h2⟩|⟨j,v,h1,h2⟩
 ·rw [h1,h2];simp [hz]
 ·rw [h1,h2];simp
theorem update_sz{w:World}{b q:Nat}{D:List (Nat×Int)}(v:Int)(h:qH w b D)(hq:Je w q)(hD:∀p∈D,Je w p.1):
  ∃w',(Instr.mapUpdate 117 (.map (some b)) (j6 q) (.int .i64 v)).run Tryz.prog w=.ok () w'/\qH w' b (xq D q v)/\w.grownBy w' (some b):=by
 obtain⟨es,clock,hb,he⟩:=h;have hlt:=jS hb;have hf:=xE q w es.toList D hq hD he
 have grown:∀o,w.grownBy {w with heap:=w.heap.setIfInBounds b o} (some b):=fun o=>
  ⟨rfl,rfl,rfl,by simp,fun k hk hne=>by
   show(w.heap.setIfInBounds b o)[k]? =w.heap[k]?
   rw [Array.getElem?_setIfInBounds_ne (fun e=>hne (by rw [e]))]⟩
 have got:∀o,({w with heap:=w.heap.setIfInBounds b o}:World).heap[b]? =some o:=fun o=>by
  show(w.heap.setIfInBounds b o)[b]? =some o
  simp [hlt]
 unfold Instr.mapUpdate;simp only [Sem.run_bind,run_underlying Tryz.underlying117,Result.andThen_ok,MapKept.run_getObj_map hb,vV,hf]
 rcases Jv D q 0 with ⟨_,h2⟩|⟨j,x,_,h2⟩
 ·rw [h2];simp only [MapKept.run_setObj_map _ hb];refine⟨_,rfl,⟨_,_,got _,?_⟩,grown _⟩;rw [Xg h2];simp only [qu,Array.toList_push,List.map_append,List.map_cons,List.map_nil];rw [show es.toList.map (fun e=>(e.key,e.val))=_ from he]
 ·rw [h2];obtain⟨k,hk,hes⟩:=Xf (v:=v) h2;obtain rfl:j=k:=by omega
  obtain⟨⟨e,he1,he2⟩,he3⟩:=hes es.toList he
  have hek:((es[j]?).map (·.key)).getD (j6 q)=j6 q:=by
   rw [<-Array.getElem?_toList,he1];simp [he2]
  have hst:(Instr.keyThatStays (j6 q) (j6 q)).run Tryz.prog w=.ok (j6 q) w:=by
   simp [Instr.keyThatStays,Instr.sameBits]
  simp only [Sem.run_bind,hek,hst,Result.andThen_ok,MapKept.run_setObj_map _ hb];refine⟨_,rfl,⟨_,_,got _,?_⟩,grown _⟩;rw [Array.toList_modify];exact he3
def kL(xs:List Int):Int:=xs.foldl pl 0
def yR(xs:List Int):Int:=xs.foldl ti 1
theorem XI(op:Int->Int->Int)(s:Int)(xs:List Int):fol op s (fun j=>xs.getD j 0) xs.length=xs.foldl op s:=by
 have key:∀n,n<=xs.length->fol op s (fun j=>xs.getD j 0) n=(xs.take n).foldl op s:=by
  intro n
  induction n with
  |zero=>intro _;rfl
  |succ n ih=>
   intro h;rw [fol,ih (by omega),List.take_succ_eq_append_getElem (by omega),List.foldl_append];simp [List.getD_eq_getElem?_getD,List.getElem?_eq_getElem (show n<xs.length by omega)]
 rw [key _ (jN _),List.take_length]
theorem QN{w:World}{g:Nat}{xs:List Int}{t:TypeId}(h:w.heap[g]? =some (.cells (xs.map (Value.int .i64)).toArray t (0,0))):∀j,j<xs.length->w.cell? ⟨g,0+j,none⟩=some (.int .i64 (xs.getD j 0)):=by
 intro j hj;rw [Nat.zero_add,jC h j];simp [List.getD_eq_getElem?_getD,List.getElem?_eq_getElem hj]
theorem ZP{xs:List Int}(h:∀x∈xs,x<=top):∀j,j<xs.length->xs.getD j 0<=top:=by
 intro j hj;rw [List.getD_eq_getElem?_getD,List.getElem?_eq_getElem hj];exact h _ (List.getElem_mem _)
theorem xY(g cap:Nat)(xs:List Int)(w:World)(hl:xs.length<=1000)(hx:∀x∈xs,x<=top)(h:w.heap[g]? =some (.cells (xs.map (Value.int .i64)).toArray 3 (0,0))):
  Calls Tryz.prog 39 #[.slice (some ⟨g,0,none⟩) xs.length cap] w fun e w'=>e=.returned (.int .i64 (kL xs))/\w=w':=by
 have:=add_any g 0 xs.length cap (fun j=>xs.getD j 0) w (by omega) (ZP hx) (QN h)
 rwa [XI] at this
theorem mul_cells(g cap:Nat)(xs:List Int)(w:World)(hl:xs.length<=1000)(hx:∀x∈xs,x<=top)(h:w.heap[g]? =some (.cells (xs.map (Value.int .i64)).toArray 3 (0,0))):
  Calls Tryz.prog 198 #[.slice (some ⟨g,0,none⟩) xs.length cap] w fun e w'=>e=.returned (.int .i64 (yR xs))/\w=w':=by
 have:=mul_any g 0 xs.length cap (fun j=>xs.getD j 0) w (by omega) (ZP hx) (QN h)
 rwa [XI] at this
theorem xn(x y:Int)(xs:List Int):kL (x::y::xs)<=top:=by
 unfold kL
 have key:∀(l:List Int) (a:Int),a<=top->l.foldl pl a<=top:=by
  intro l
  induction l with
  |nil=>intro a h;exact h
  |cons b l ih=>intro a _;exact ih _ (vi _)
 exact key _ 0 (by unfold top;omega)
theorem Vm(x y:Int):yR [x,y]<=top:=vi _
theorem xm(xs:List Int):0<=kL xs:=by
 unfold kL
 have key:∀(l:List Int) (a:Int),0<=a->0<=l.foldl pl a:=by
  intro l
  induction l with
  |nil=>intro a h;exact h
  |cons b l ih=>intro a _;exact ih _ (pl_nn _ _)
 exact key _ 0 (Int.le_refl _)
def qQ(x lo hi:Int):Int:=
 if hi= -1 then kL [yR [lo,kL [x,1]],x,1] else if hi=0 then 1 else if lo=hi then kL [yR [lo-1,kL [x,1]],x] else kL [yR [lo,kL [x,1]],yR [hi-lo-1,kL [x,3]],x,2]
theorem U5(x lo hi:Int)(w:World)(hx:x<=top)(h1:0<=lo)(h2:lo<=1000)(h3:hi= -1\/(lo<=hi/\hi<=1000)):
  Calls Tryz.prog 150 #[.int .i64 x,.int .i64 lo,.int .i64 hi] w fun e w'=>e=.returned (.int .i64 (qQ x lo hi))/\Below w.heap.size w w':=by
 have AD:=j0 xY;have MU:=j0 mul_cells;have HX:=j0 hx;have H2:=j0 (And.intro h1 h2);obtain⟨res,hres⟩:∃r,r=qQ x lo hi:=⟨_,rfl⟩;rw [<-hres];have HRES:=j0 hres;clear hres hx
 by_cases e1:hi= -1
 ·subst e1;have HR:Hid (res=kL [yR [lo,kL [x,1]],x,1]):=j0 (by rw [HRES.out];rfl);clear h1 h2 h3
  go_enter Tryz.func150,Tryz.ntmps150
  obtain⟨W1,hW1⟩:∃Y,Y=w.alloc (.cells #[.int .i64 (x),.int .i64 (1)] 3):=⟨_,rfl⟩;have bW1:Below w.heap.size w W1:=by rw [hW1];exact j3 _ _
  have KW1:=j0 (AD.out w.heap.size 2 [x,1] W1 (by simp) (fun z hz=>by
    simp only [List.mem_cons,List.not_mem_nil,or_false] at hz
    rcases hz with h|h
    ·rw [h];exact(HX.out)
    ·rw [h];exact(by unfold top;omega)
   ) (by rw [hW1];exact j1 w _))
  have BW1:=j0 ((Below.refl w.heap.size w).trans (bW1.mono (Below.refl w.heap.size w).size));clear bW1
  go_wp2_with fail
  rw [<-hW1];clear hW1;refine KW1.out.mono ?_;rintro e wz ⟨rfl,hz⟩;obtain rfl:W1=wz:=hz;clear KW1;obtain⟨W2,hW2⟩:∃Y,Y=W1.alloc (.cells #[.int .i64 (lo),.int .i64 (kL [x,1])] 3):=⟨_,rfl⟩;have bW2:Below W1.heap.size W1 W2:=by rw [hW2];exact j3 _ _
  have KW2:=j0 (MU.out W1.heap.size 2 [lo,kL [x,1]] W2 (by simp) (fun z hz=>by
    simp only [List.mem_cons,List.not_mem_nil,or_false] at hz
    rcases hz with h|h
    ·rw [h];exact(by have:=H2.out;unfold top;omega)
    ·rw [h];exact(xn _ _ _)
   ) (by rw [hW2];exact j1 W1 _))
  have BW2:=j0 (BW1.out.trans (bW2.mono BW1.out.size));clear bW2
  go_wp2_with fail
  rw [<-hW2];clear hW2;refine KW2.out.mono ?_;rintro e wz ⟨rfl,hz⟩;obtain rfl:W2=wz:=hz;clear KW2;obtain⟨W3,hW3⟩:∃Y,Y=W2.alloc (.cells #[.int .i64 (yR [lo,kL [x,1]]),.int .i64 (x),.int .i64 (1)] 3):=⟨_,rfl⟩;have bW3:Below W2.heap.size W2 W3:=by rw [hW3];exact j3 _ _
  have KW3:=j0 (AD.out W2.heap.size 3 [yR [lo,kL [x,1]],x,1] W3 (by simp) (fun z hz=>by
    simp only [List.mem_cons,List.not_mem_nil,or_false] at hz
    rcases hz with h|h|h
    ·rw [h];exact(Vm _ _)
    ·rw [h];exact(HX.out)
    ·rw [h];exact(by unfold top;omega)
   ) (by rw [hW3];exact j1 W2 _))
  have BW3:=j0 (BW2.out.trans (bW3.mono BW2.out.size));clear bW3
  go_wp2_with fail
  rw [<-hW3];clear hW3;refine KW3.out.mono ?_;rintro e wz ⟨rfl,hz⟩;obtain rfl:W3=wz:=hz;clear KW3
  go_wp2_with fail
  go_ret
  exact⟨by rw [HR.out];rfl,BW3.out⟩
 have q1:((hi:Int)== -1)=false:=by simpa using e1
 have g:=h3.resolve_left e1
 by_cases e2:hi=0
 ·subst e2;have HR:Hid (res=1):=j0 (by rw [HRES.out];unfold qQ;rw [if_neg e1,if_pos rfl]);clear h1 h2 h3 g e1
  go_enter Tryz.func150,Tryz.ntmps150
  obtain⟨W4,hW4⟩:∃Y,Y=w.alloc (.cells #[.int .i64 (x),.int .i64 (1)] 3):=⟨_,rfl⟩;have bW4:Below w.heap.size w W4:=by rw [hW4];exact j3 _ _
  have KW4:=j0 (AD.out w.heap.size 2 [x,1] W4 (by simp) (fun z hz=>by
    simp only [List.mem_cons,List.not_mem_nil,or_false] at hz
    rcases hz with h|h
    ·rw [h];exact(HX.out)
    ·rw [h];exact(by unfold top;omega)
   ) (by rw [hW4];exact j1 w _))
  have BW4:=j0 ((Below.refl w.heap.size w).trans (bW4.mono (Below.refl w.heap.size w).size));clear bW4
  go_wp2_with fail
  rw [<-hW4];clear hW4;refine KW4.out.mono ?_;rintro e wz ⟨rfl,hz⟩;obtain rfl:W4=wz:=hz;clear KW4;obtain⟨W5,hW5⟩:∃Y,Y=W4.alloc (.cells #[.int .i64 (lo),.int .i64 (kL [x,1])] 3):=⟨_,rfl⟩;have bW5:Below W4.heap.size W4 W5:=by rw [hW5];exact j3 _ _
  have KW5:=j0 (MU.out W4.heap.size 2 [lo,kL [x,1]] W5 (by simp) (fun z hz=>by
    simp only [List.mem_cons,List.not_mem_nil,or_false] at hz
    rcases hz with h|h
    ·rw [h];exact(by have:=H2.out;unfold top;omega)
    ·rw [h];exact(xn _ _ _)
   ) (by rw [hW5];exact j1 W4 _))
  have BW5:=j0 (BW4.out.trans (bW5.mono BW4.out.size));clear bW5
  go_wp2_with fail
  rw [<-hW5];clear hW5;refine KW5.out.mono ?_;rintro e wz ⟨rfl,hz⟩;obtain rfl:W5=wz:=hz;clear KW5
  go_wp2_with fail
  go_ret
  exact⟨by rw [HR.out];rfl,BW5.out⟩
 have q2:((hi:Int)==0)=false:=by simpa using e2
 by_cases e3:lo=hi
 ·subst e3;have HR:Hid (res=kL [yR [lo-1,kL [x,1]],x]):=j0 (by rw [HRES.out];unfold qQ;rw [if_neg e1,if_neg e2,if_pos rfl]);have g1:0<lo:=by omega
  have g2:lo<=1000:=h2;clear h1 h2 h3 g e1 e2
  go_enter Tryz.func150,Tryz.ntmps150
  obtain⟨W6,hW6⟩:∃Y,Y=w.alloc (.cells #[.int .i64 (x),.int .i64 (1)] 3):=⟨_,rfl⟩;have bW6:Below w.heap.size w W6:=by rw [hW6];exact j3 _ _
  have KW6:=j0 (AD.out w.heap.size 2 [x,1] W6 (by simp) (fun z hz=>by
    simp only [List.mem_cons,List.not_mem_nil,or_false] at hz
    rcases hz with h|h
    ·rw [h];exact(HX.out)
    ·rw [h];exact(by unfold top;omega)
   ) (by rw [hW6];exact j1 w _))
  have BW6:=j0 ((Below.refl w.heap.size w).trans (bW6.mono (Below.refl w.heap.size w).size));clear bW6
  go_wp2_with fail
  rw [<-hW6];clear hW6;refine KW6.out.mono ?_;rintro e wz ⟨rfl,hz⟩;obtain rfl:W6=wz:=hz;clear KW6;obtain⟨W7,hW7⟩:∃Y,Y=W6.alloc (.cells #[.int .i64 (lo),.int .i64 (kL [x,1])] 3):=⟨_,rfl⟩;have bW7:Below W6.heap.size W6 W7:=by rw [hW7];exact j3 _ _
  have KW7:=j0 (MU.out W6.heap.size 2 [lo,kL [x,1]] W7 (by simp) (fun z hz=>by
    simp only [List.mem_cons,List.not_mem_nil,or_false] at hz
    rcases hz with h|h
    ·rw [h];exact(by unfold top;omega)
    ·rw [h];exact(xn _ _ _)
   ) (by rw [hW7];exact j1 W6 _))
  have BW7:=j0 (BW6.out.trans (bW7.mono BW6.out.size));clear bW7
  go_wp2_with fail
  rw [<-hW7];clear hW7;refine KW7.out.mono ?_;rintro e wz ⟨rfl,hz⟩;obtain rfl:W7=wz:=hz;clear KW7;obtain⟨W7b,hW7b⟩:∃Y,Y=W7.alloc (.cells #[.int .i64 (x),.int .i64 (1)] 3):=⟨_,rfl⟩;have bW7b:Below W7.heap.size W7 W7b:=by rw [hW7b];exact j3 _ _
  have KW7b:=j0 (AD.out W7.heap.size 2 [x,1] W7b (by simp) (fun z hz=>by
   simp only [List.mem_cons,List.not_mem_nil,or_false] at hz
   rcases hz with h|h
   ·rw [h];exact(HX.out)
   ·rw [h];exact(by unfold top;omega)
   ) (by rw [hW7b];exact j1 W7 _))
  have BW7b:=j0 (BW7.out.trans (bW7b.mono BW7.out.size));clear bW7b
  go_wp2_with fail
  rw [<-hW7b];clear hW7b;refine KW7b.out.mono ?_;rintro e wz ⟨rfl,hz⟩;obtain rfl:W7b=wz:=hz;clear KW7b;obtain⟨W8,hW8⟩:∃Y,Y=W7b.alloc (.cells #[.int .i64 (lo-1),.int .i64 (kL [x,1])] 3):=⟨_,rfl⟩;have bW8:Below W7b.heap.size W7b W8:=by rw [hW8];exact j3 _ _
  have KW8:=j0 (MU.out W7b.heap.size 2 [lo-1,kL [x,1]] W8 (by simp) (fun z hz=>by
    simp only [List.mem_cons,List.not_mem_nil,or_false] at hz
    rcases hz with h|h
    ·rw [h];exact(by unfold top;omega)
    ·rw [h];exact(xn _ _ _)
   ) (by rw [hW8];exact j1 W7b _))
  have BW8:=j0 (BW7b.out.trans (bW8.mono BW7b.out.size));clear bW8
  go_wp2_with fail
  rw [<-hW8];clear hW8;refine KW8.out.mono ?_;rintro e wz ⟨rfl,hz⟩;obtain rfl:W8=wz:=hz;clear KW8;obtain⟨W9,hW9⟩:∃Y,Y=W8.alloc (.cells #[.int .i64 (yR [lo-1,kL [x,1]]),.int .i64 (x)] 3):=⟨_,rfl⟩;have bW9:Below W8.heap.size W8 W9:=by rw [hW9];exact j3 _ _
  have KW9:=j0 (AD.out W8.heap.size 2 [yR [lo-1,kL [x,1]],x] W9 (by simp) (fun z hz=>by
    simp only [List.mem_cons,List.not_mem_nil,or_false] at hz
    rcases hz with h|h
    ·rw [h];exact(Vm _ _)
    ·rw [h];exact(HX.out)
   ) (by rw [hW9];exact j1 W8 _))
  have BW9:=j0 (BW8.out.trans (bW9.mono BW8.out.size));clear bW9
  go_wp2_with fail
  rw [<-hW9];clear hW9;refine KW9.out.mono ?_;rintro e wz ⟨rfl,hz⟩;obtain rfl:W9=wz:=hz;clear KW9
  go_wp2_with fail
  go_ret
  exact⟨by rw [HR.out];rfl,BW9.out⟩
 have q3:((lo:Int)==hi)=false:=by simpa using e3
 have HR:Hid (res=kL [yR [lo,kL [x,1]],yR [hi-lo-1,kL [x,3]],x,2]):=j0 (by rw [HRES.out];unfold qQ;rw [if_neg e1,if_neg e2,if_neg e3]);have H4:=j0 g;obtain⟨g1,g2⟩:=g;clear h3 e1 e2 e3
 go_enter Tryz.func150,Tryz.ntmps150
 obtain⟨W10,hW10⟩:∃Y,Y=w.alloc (.cells #[.int .i64 (x),.int .i64 (1)] 3):=⟨_,rfl⟩;have bW10:Below w.heap.size w W10:=by rw [hW10];exact j3 _ _
 have KW10:=j0 (AD.out w.heap.size 2 [x,1] W10 (by simp) (fun z hz=>by
   simp only [List.mem_cons,List.not_mem_nil,or_false] at hz
   rcases hz with h|h
   ·rw [h];exact(HX.out)
   ·rw [h];exact(by unfold top;omega)
  ) (by rw [hW10];exact j1 w _))
 have BW10:=j0 ((Below.refl w.heap.size w).trans (bW10.mono (Below.refl w.heap.size w).size));clear bW10
 go_wp2_with fail
 rw [<-hW10];clear hW10;refine KW10.out.mono ?_;rintro e wz ⟨rfl,hz⟩;obtain rfl:W10=wz:=hz;clear KW10;obtain⟨W11,hW11⟩:∃Y,Y=W10.alloc (.cells #[.int .i64 (lo),.int .i64 (kL [x,1])] 3):=⟨_,rfl⟩;have bW11:Below W10.heap.size W10 W11:=by rw [hW11];exact j3 _ _
 have KW11:=j0 (MU.out W10.heap.size 2 [lo,kL [x,1]] W11 (by simp) (fun z hz=>by
   simp only [List.mem_cons,List.not_mem_nil,or_false] at hz
   rcases hz with h|h
   ·rw [h];exact(by have:=H2.out;unfold top;omega)
   ·rw [h];exact(xn _ _ _)
  ) (by rw [hW11];exact j1 W10 _))
 have BW11:=j0 (BW10.out.trans (bW11.mono BW10.out.size));clear bW11
 go_wp2_with fail
 rw [<-hW11];clear hW11;refine KW11.out.mono ?_;rintro e wz ⟨rfl,hz⟩;obtain rfl:W11=wz:=hz;clear KW11;obtain⟨W12,hW12⟩:∃Y,Y=W11.alloc (.cells #[.int .i64 (x),.int .i64 (3)] 3):=⟨_,rfl⟩;have bW12:Below W11.heap.size W11 W12:=by rw [hW12];exact j3 _ _
 have KW12:=j0 (AD.out W11.heap.size 2 [x,3] W12 (by simp) (fun z hz=>by
   simp only [List.mem_cons,List.not_mem_nil,or_false] at hz
   rcases hz with h|h
   ·rw [h];exact(HX.out)
   ·rw [h];exact(by unfold top;omega)
  ) (by rw [hW12];exact j1 W11 _))
 have BW12:=j0 (BW11.out.trans (bW12.mono BW11.out.size));clear bW12
 go_wp2_with fail
 rw [<-hW12];clear hW12;refine KW12.out.mono ?_;rintro e wz ⟨rfl,hz⟩;obtain rfl:W12=wz:=hz;clear KW12;obtain⟨W13,hW13⟩:∃Y,Y=W12.alloc (.cells #[.int .i64 (hi-lo-1),.int .i64 (kL [x,3])] 3):=⟨_,rfl⟩;have bW13:Below W12.heap.size W12 W13:=by rw [hW13];exact j3 _ _
 have KW13:=j0 (MU.out W12.heap.size 2 [hi-lo-1,kL [x,3]] W13 (by simp) (fun z hz=>by
   simp only [List.mem_cons,List.not_mem_nil,or_false] at hz
   rcases hz with h|h
   ·rw [h];exact(by have:=H2.out;have:=H4.out;unfold top;omega)
   ·rw [h];exact(xn _ _ _)
  ) (by rw [hW13];exact j1 W12 _))
 have BW13:=j0 (BW12.out.trans (bW13.mono BW12.out.size));clear bW13
 go_wp2_with fail
 rw [<-hW13];clear hW13;refine KW13.out.mono ?_;rintro e wz ⟨rfl,hz⟩;obtain rfl:W13=wz:=hz;clear KW13;obtain⟨W14,hW14⟩:∃Y,Y=W13.alloc (.cells #[.int .i64 (yR [lo,kL [x,1]]),.int .i64 (yR [hi-lo-1,kL [x,3]]),.int .i64 (x),.int .i64 (2)] 3):=⟨_,rfl⟩;have bW14:Below W13.heap.size W13 W14:=by rw [hW14];exact j3 _ _
 have KW14:=j0 (AD.out W13.heap.size 4 [yR [lo,kL [x,1]],yR [hi-lo-1,kL [x,3]],x,2] W14 (by simp) (fun z hz=>by
   simp only [List.mem_cons,List.not_mem_nil,or_false] at hz
   rcases hz with h|h|h|h
   ·rw [h];exact(Vm _ _)
   ·rw [h];exact(Vm _ _)
   ·rw [h];exact(HX.out)
   ·rw [h];exact(by unfold top;omega)
  ) (by rw [hW14];exact j1 W13 _))
 have BW14:=j0 (BW13.out.trans (bW14.mono BW13.out.size));clear bW14
 go_wp2_with fail
 rw [<-hW14];clear hW14;refine KW14.out.mono ?_;rintro e wz ⟨rfl,hz⟩;obtain rfl:W14=wz:=hz;clear KW14
 go_wp2_with fail
 go_ret
 exact⟨by rw [HR.out];rfl,BW14.out⟩
end
end Go.Proofs.YtnmalggmbeipaaaGreatDoor
