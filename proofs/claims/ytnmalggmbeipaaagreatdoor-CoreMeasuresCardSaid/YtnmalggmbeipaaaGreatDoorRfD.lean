/- A part of the proof. -/
import Derived.Test.YtnmalggmbeipaaaGreatDoorTb
import Derived.Test.YtnmalggmbeipaaaGreatDoorRfB
import Derived.Test.YtnmalggmbeipaaaGreatDoorRegion
namespace Go.Proofs.YtnmalggmbeipaaaGreatDoor
section
open Go Go.RowKit
attribute [local go_sem ↓] Go.wp_at_zero Go.wp_at_succ
attribute [local go_sem] qX
def kC(r:W4×Int×Nat):Value:=.tuple #[.agg #[.int .u64 r.1.a,.int .u64 r.1.b,.int .u64 r.1.c,.int .u64 r.1.d],.agg #[.int .i64 (r.2.2:Int),.int .i64 r.2.1]]
theorem oneW_mem(c m:Nat)(hc:c<256)(hm:m<256):(jh c).mem m=Uu [(c,c)] m:=by
 have h:=Xs (fun _=>(c:Int)) (fun _=>by omega) (fun _=>by omega) 1 m hm
 show kn (zg c 0) (zg c 1) (zg c 2) (zg c 3) m=_
 unfold zg;rw [h];simp only [onr,Bool.false_or,Uu,List.any_cons,List.any_nil,Bool.or_false]
 by_cases e:c=m
 ·subst e;simp
 ·have h1:¬(c:Int)=(m:Int):=by omega
  have h2:(decide (c<=m) && decide (m<=c))=false:=by
   rw [<-Bool.not_eq_true];intro h;simp at h;omega
  rw [h2];exact jF h1
theorem ZV:∀m:Fin 256,xM.mem m.val=Uu [(48,57)] m.val:=by decide+kernel
theorem VL:∀m:Fin 256,wordW.mem m.val=Uu [(48,57),(97,122),(65,90),(95,95)] m.val:=by decide+kernel
theorem UE:∀m:Fin 256,qF.mem m.val=Uu [(9,13),(32,32)] m.val:=by decide+kernel
theorem zi(t:W4)(m:Nat):(km t).mem m= !t.mem m:=Vn _ _ _ _ m
theorem inB_them(c:Nat)(hc:c<256):Za xc c 16=yU c:=by
 have hall:∀n:Fin 256,Za xc n.val 16=yU n.val:=by decide+kernel
 exact hall ⟨c,hc⟩
theorem inB_ref(c:Nat)(hc:c<256):Za Xd c 20=Qr c:=by
 have hall:∀n:Fin 256,Za Xd n.val 20=Qr n.val:=by decide+kernel
 exact hall ⟨c,hc⟩
theorem Yu(c:Nat)(hc:c<256)(h:yU c=true):Qr c=false/\c≠120:=by
 have hall:∀n:Fin 256,yU n.val=true->Qr n.val=false/\n.val≠120:=by decide+kernel
 exact hall ⟨c,hc⟩ h
theorem jE.up{w w':World}{gl:Nat}{L:List (Nat×Nat)}(h:jE w gl L)(hb:Below w.heap.size w w'):jE w' gl L:=h.below hb h.1
theorem pairs_blk{w:World}{g:Nat}{L:List (Nat×Nat)}{arr:Array Value}{ty:TypeId}(h:w.heap[g]? =some (.cells arr ty))(ha:∀i p,L[i]? =some p->arr[i*2]? =some (.int .i64 (p.1:Int))/\arr[i*2+1]? =some (.int .i64 (p.2:Int))):jE w g L:=
 ⟨jS h,fun i p hi=>⟨(jC h (i*2)).trans (ha i p hi).1,(jC h (i*2+1)).trans (ha i p hi).2⟩⟩
theorem ze{x y:Nat}{arr:Array Value}(h0:arr[0]? =some (.int .i64 (x:Int)))(h1:arr[1]? =some (.int .i64 (y:Int))):∀i p,[(x,y)][i]? =some p->arr[i*2]? =some (.int .i64 (p.1:Int))/\arr[i*2+1]? =some (.int .i64 (p.2:Int)):=by
 intro i p hi
 match i,hi with
 |0,hi=>
  obtain rfl:(x,y)=p:=by simpa using hi
  exact⟨h0,h1⟩
 |i+1,hi=>simp at hi
structure je(w:World)(b:Nat)(x y:Int):Prop where
 at_:w.cell? ⟨b,0,none⟩=some (.int .i64 x)/\w.cell? ⟨b,1,none⟩=some (.int .i64 y)
 free:w.frozen? ⟨b,0,none⟩=false/\w.frozen? ⟨b,1,none⟩=false
 lt:b<w.heap.size
theorem je.of{w:World}{b:Nat}{x y:Int}{ty:TypeId}(h:w.heap[b]? =some (.cells #[.int .i64 x,.int .i64 y] ty)):je w b x y:=
 ⟨⟨jC h 0,jC h 1⟩,⟨jU h 0,jU h 1⟩,jS h⟩
theorem je.below{w w':World}{b:Nat}{x y:Int}(h:je w b x y)(hb:Below w.heap.size w w'):je w' b x y:=
 ⟨⟨(hb.cell (p:=⟨b,0,none⟩) h.lt).trans h.at_.1,(hb.cell (p:=⟨b,1,none⟩) h.lt).trans h.at_.2⟩,⟨(hb.frozen (p:=⟨b,0,none⟩) h.lt).trans h.free.1,(hb.frozen (p:=⟨b,1,none⟩) h.lt).trans h.free.2⟩,Nat.lt_of_lt_of_le h.lt hb.size⟩
abbrev jO(w:World)(b:Nat)(x y:Int):World:=(w.setCell ⟨b,0,none⟩ (.int .i64 x)).setCell ⟨b,1,none⟩ (.int .i64 y)
theorem OwnSet.end_{w:World}{b b':Nat}{t:W4}{x y:Int}(h:OwnSet w b t)(hne:b≠b'):OwnSet (jO w b' x y) b t:=by
 refine h.same ?_ (by simp [jO,World.setCell]);unfold jO;rw [Below.heap_setCell _ _ _ _ (by simpa using hne),Below.heap_setCell _ _ _ _ (by simpa using hne)]
theorem je.set_{w:World}{b b':Nat}{x y:Int}{t:W4}(h:je w b x y)(hne:b≠b'):je (jQ w b' t) b x y:=by
 have e:(jQ w b' t).heap[b]? =w.heap[b]? :=by
  unfold jQ;rw [Below.heap_setCell _ _ _ _ (by simpa using hne),Below.heap_setCell _ _ _ _ (by simpa using hne),Below.heap_setCell _ _ _ _ (by simpa using hne),Below.heap_setCell _ _ _ _ (by simpa using hne)]
 have c:∀o,(jQ w b' t).cell? ⟨b,o,none⟩=w.cell? ⟨b,o,none⟩:=fun o=>World.cell?_of_block (w:=w) (a:=⟨b,o,none⟩) e
 have f:∀o,(jQ w b' t).frozen? ⟨b,o,none⟩=w.frozen? ⟨b,o,none⟩:=fun o=>World.frozen?_of_block (w:=w) (a:=⟨b,o,none⟩) e
 exact⟨⟨(c 0).trans h.at_.1,(c 1).trans h.at_.2⟩,⟨(f 0).trans h.free.1,(f 1).trans h.free.2⟩,by simpa [jQ,World.setCell] using h.lt⟩
theorem je.put{w:World}{b:Nat}{x y:Int}(h:je w b x y)(x' y':Int):je (jO w b x' y') b x' y':=by
 obtain⟨⟨z0,z1⟩,⟨f0,f1⟩,lt⟩:=h;refine⟨⟨?_,?_⟩,⟨?_,?_⟩,by simpa [jO,World.setCell] using lt⟩<;>simp [jO,go_sem, *]
structure EscW(w X:World)(b1 b2 b3 b4 b5 b6 c k:Nat):Prop where
 st:OwnSet X w.heap.size j7
 en:je X b1 0 0
 one:jE X b2 [(c,c)]
 dig:jE X b3 [(48,57)]
 wrd:jE X b4 [(48,57),(97,122),(65,90),(95,95)]
 blk:jE X b5 [(9,13),(32,32)]
 fin:je X b6 ((k:Int)+2) 0
 ne:w.heap.size<b1
 bel:Below w.heap.size w X
theorem EscW.below{w X Y:World}{b1 b2 b3 b4 b5 b6 c k:Nat}(h:EscW w X b1 b2 b3 b4 b5 b6 c k)(hb:Below X.heap.size X Y):EscW w Y b1 b2 b3 b4 b5 b6 c k:=
 ⟨h.st.below hb,h.en.below hb,h.one.up hb,h.dig.up hb,h.wrd.up hb,h.blk.up hb,h.fin.below hb,h.ne,h.bel.trans (hb.mono h.bel.size)⟩
theorem EscW.puts{w X:World}{b1 b2 b3 b4 b5 b6 c k:Nat}(h:EscW w X b1 b2 b3 b4 b5 b6 c k)(t:W4)(x y:Int):
  OwnSet (jO (jQ X w.heap.size t) b1 x y) w.heap.size t/\je (jO (jQ X w.heap.size t) b1 x y) b1 x y/\Below w.heap.size w (jO (jQ X w.heap.size t) b1 x y):=by
 have hne:=h.ne;exact⟨(h.st.put t).end_ (by omega),(h.en.set_ (by omega)).put x y,((kD h.bel (jN _) _ _ _ _).setCell (by simp;omega) _).setCell (by simp;omega) _⟩
def QI(w:World)(c k:Nat):World:=
 ((((((w.alloc j5).alloc (.cells #[.int .i64 0,.int .i64 0] 177)).alloc (.cells #[.int .i64 (c:Int),.int .i64 (c:Int)] 183)).alloc (.cells #[.int .i64 48,.int .i64 57] 183)).alloc
  (.cells #[.int .i64 48,.int .i64 57,.int .i64 97,.int .i64 122,.int .i64 65,.int .i64 90,.int .i64 95,.int .i64 95] 183)).alloc (.cells #[.int .i64 9,.int .i64 13,.int .i64 32,.int .i64 32] 183)).alloc (.cells #[.int .i64 ((k:Int)+2),.int .i64 0] 177)
theorem XL(w:World)(c k:Nat):EscW w (QI w c k) (w.heap.size+1) (w.heap.size+1+1) (w.heap.size+1+1+1) (w.heap.size+1+1+1+1) (w.heap.size+1+1+1+1+1) (w.heap.size+1+1+1+1+1+1) c k:=by
 unfold QI;obtain⟨w1,h1⟩:∃x,x=w.alloc j5:=⟨_,rfl⟩;have n1:w1.heap.size=w.heap.size+1:=by rw [h1,World.size_alloc]
 have s1:w1.heap[w.heap.size]? =some j5:=by rw [h1];exact j1 _ _
 have d1:Below w.heap.size w w1:=by rw [h1];exact j3 _ _
 obtain⟨w2,h2⟩:∃x,x=w1.alloc (.cells #[.int .i64 0,.int .i64 0] 177):=⟨_,rfl⟩;have n2:w2.heap.size=w1.heap.size+1:=by rw [h2,World.size_alloc]
 have s2:w2.heap[w1.heap.size]? =some (.cells #[.int .i64 0,.int .i64 0] 177):=by rw [h2];exact j1 _ _
 have d2:Below w1.heap.size w1 w2:=by rw [h2];exact j3 _ _
 obtain⟨w3,h3⟩:∃x,x=w2.alloc (.cells #[.int .i64 (c:Int),.int .i64 (c:Int)] 183):=⟨_,rfl⟩;have n3:w3.heap.size=w2.heap.size+1:=by rw [h3,World.size_alloc]
 have s3:w3.heap[w2.heap.size]? =some (.cells #[.int .i64 (c:Int),.int .i64 (c:Int)] 183):=by rw [h3];exact j1 _ _
 have d3:Below w2.heap.size w2 w3:=by rw [h3];exact j3 _ _
 obtain⟨w4,h4⟩:∃x,x=w3.alloc (.cells #[.int .i64 48,.int .i64 57] 183):=⟨_,rfl⟩;have n4:w4.heap.size=w3.heap.size+1:=by rw [h4,World.size_alloc]
 have s4:w4.heap[w3.heap.size]? =some (.cells #[.int .i64 48,.int .i64 57] 183):=by rw [h4];exact j1 _ _
 have d4:Below w3.heap.size w3 w4:=by rw [h4];exact j3 _ _
 obtain⟨w5,h5⟩:∃x,x=w4.alloc (.cells #[.int .i64 48,.int .i64 57,.int .i64 97,.int .i64 122,.int .i64 65,.int .i64 90,.int .i64 95,.int .i64 95] 183):=⟨_,rfl⟩;have n5:w5.heap.size=w4.heap.size+1:=by rw [h5,World.size_alloc]
 have s5:w5.heap[w4.heap.size]? =some (.cells #[.int .i64 48,.int .i64 57,.int .i64 97,.int .i64 122,.int .i64 65,.int .i64 90,.int .i64 95,.int .i64 95] 183):=by rw [h5];exact j1 _ _
 have d5:Below w4.heap.size w4 w5:=by rw [h5];exact j3 _ _
 obtain⟨w6,h6⟩:∃x,x=w5.alloc (.cells #[.int .i64 9,.int .i64 13,.int .i64 32,.int .i64 32] 183):=⟨_,rfl⟩;have n6:w6.heap.size=w5.heap.size+1:=by rw [h6,World.size_alloc]
 have s6:w6.heap[w5.heap.size]? =some (.cells #[.int .i64 9,.int .i64 13,.int .i64 32,.int .i64 32] 183):=by rw [h6];exact j1 _ _
 have d6:Below w5.heap.size w5 w6:=by rw [h6];exact j3 _ _
 obtain⟨w7,h7⟩:∃x,x=w6.alloc (.cells #[.int .i64 ((k:Int)+2),.int .i64 0] 177):=⟨_,rfl⟩;have n7:w7.heap.size=w6.heap.size+1:=by rw [h7,World.size_alloc]
 have s7:w7.heap[w6.heap.size]? =some (.cells #[.int .i64 ((k:Int)+2),.int .i64 0] 177):=by rw [h7];exact j1 _ _
 have d7:Below w6.heap.size w6 w7:=by rw [h7];exact j3 _ _
 rw [<-h1,<-h2,<-h3,<-h4,<-h5,<-h6,<-h7];have b7:Below w7.heap.size w7 w7:=Below.refl _ _;have b6:Below w6.heap.size w6 w7:=d7.trans (b7.mono d7.size);have b5:Below w5.heap.size w5 w7:=d6.trans (b6.mono d6.size);have b4:Below w4.heap.size w4 w7:=d5.trans (b5.mono d5.size);have b3:Below w3.heap.size w3 w7:=d4.trans (b4.mono d4.size);have b2:Below w2.heap.size w2 w7:=d3.trans (b3.mono d3.size);have b1:Below w1.heap.size w1 w7:=d2.trans (b2.mono d2.size);have b0:Below w.heap.size w w7:=d1.trans (b1.mono d1.size);rw [show w.heap.size+1+1+1+1+1+1=w6.heap.size by omega,show w.heap.size+1+1+1+1+1=w5.heap.size by omega,show w.heap.size+1+1+1+1=w4.heap.size by omega,show w.heap.size+1+1+1=w3.heap.size by omega,show w.heap.size+1+1=w2.heap.size by omega,show w.heap.size+1=w1.heap.size by omega];refine⟨(OwnSet.of (t:=j7) s1).below b1,(je.of s2).below b2,(pairs_blk s3 (ze rfl rfl)).up b3,(pairs_blk s4 (ze rfl rfl)).up b4,(pairs_blk s5 ?_).up b5,(pairs_blk s6 ?_).up b6,(je.of s7).below b7,by omega,b0⟩
 ·intro i p hi
  match i,hi with
  |0,hi=>obtain rfl:=Option.some.inj hi;exact⟨rfl,rfl⟩
  |1,hi=>obtain rfl:=Option.some.inj hi;exact⟨rfl,rfl⟩
  |2,hi=>obtain rfl:=Option.some.inj hi;exact⟨rfl,rfl⟩
  |3,hi=>obtain rfl:=Option.some.inj hi;exact⟨rfl,rfl⟩
  |i+4,hi=>simp at hi
 ·intro i p hi
  match i,hi with
  |0,hi=>obtain rfl:=Option.some.inj hi;exact⟨rfl,rfl⟩
  |1,hi=>obtain rfl:=Option.some.inj hi;exact⟨rfl,rfl⟩
  |i+2,hi=>simp at hi
structure QW(w:World)(b1 b6:Nat)(t:W4)(z:Int)(i3 i4:Nat)(listed:Array Bool)(X:World):Prop where
 st:OwnSet X w.heap.size (if listed.getD i3 false=true then t else j7)
 en:je X b1 (if listed.getD i4 false=true then z else 0) 0
 fin:je X b6 z 0
 ne:w.heap.size<b1
 ne6:b6≠w.heap.size/\b6≠b1
 bel:Below w.heap.size w X
theorem QW.same{w:World}{b1 b6:Nat}{t:W4}{z:Int}{i3 i4:Nat}{listed:Array Bool}{X Y:World}{i:Nat}(h:QW w b1 b6 t z i3 i4 listed X)(h3:i≠i3)(h4:i≠i4)(hb:Below X.heap.size X Y):QW w b1 b6 t z i3 i4 (listed.setIfInBounds i true) Y:=by
 refine⟨?_,?_,h.fin.below hb,h.ne,h.ne6,h.bel.trans (hb.mono h.bel.size)⟩
 ·rw [getD_set_ne false h3];exact h.st.below hb
 ·rw [getD_set_ne false h4];exact h.en.below hb
theorem jE.other{X Y:World}{gl:Nat}{L:List (Nat×Nat)}(h:jE X gl L)(e:Y.heap[gl]? =X.heap[gl]?)(hs:X.heap.size<=Y.heap.size):jE Y gl L:=
 ⟨Nat.lt_of_lt_of_le h.1 hs,fun i p hi=>⟨(World.cell?_of_block (w:=X) (a:=⟨gl,i*2,none⟩) e).trans (h.2 i p hi).1,(World.cell?_of_block (w:=X) (a:=⟨gl,i*2+1,none⟩) e).trans (h.2 i p hi).2⟩⟩
theorem jE.set_{X:World}{gl b:Nat}{L:List (Nat×Nat)}{t:W4}(h:jE X gl L)(hne:gl≠b):jE (jQ X b t) gl L:=h.other (by
 unfold jQ
 rw [Below.heap_setCell _ _ _ _ (by simpa using hne),Below.heap_setCell _ _ _ _ (by simpa using hne),Below.heap_setCell _ _ _ _ (by simpa using hne),Below.heap_setCell _ _ _ _ (by simpa using hne)]) (by simp [jQ,World.setCell])
theorem jE.end_{X:World}{gl b:Nat}{L:List (Nat×Nat)}{x y:Int}(h:jE X gl L)(hne:gl≠b):jE (jO X b x y) gl L:=h.other (by
 unfold jO
 rw [Below.heap_setCell _ _ _ _ (by simpa using hne),Below.heap_setCell _ _ _ _ (by simpa using hne)]) (by simp [jO,World.setCell])
theorem je.other{w:World}{b b':Nat}{x y x' y':Int}(h:je w b x y)(hne:b≠b'):je (jO w b' x' y') b x y:=by
 have e:(jO w b' x' y').heap[b]? =w.heap[b]? :=by
  unfold jO;rw [Below.heap_setCell _ _ _ _ (by simpa using hne),Below.heap_setCell _ _ _ _ (by simpa using hne)]
 have c:∀o,(jO w b' x' y').cell? ⟨b,o,none⟩=w.cell? ⟨b,o,none⟩:=fun o=>World.cell?_of_block (w:=w) (a:=⟨b,o,none⟩) e
 have f:∀o,(jO w b' x' y').frozen? ⟨b,o,none⟩=w.frozen? ⟨b,o,none⟩:=fun o=>World.frozen?_of_block (w:=w) (a:=⟨b,o,none⟩) e
 exact⟨⟨(c 0).trans h.at_.1,(c 1).trans h.at_.2⟩,⟨(f 0).trans h.free.1,(f 1).trans h.free.2⟩,by simpa [jO,World.setCell] using h.lt⟩
theorem QW.put3{w:World}{b1 b6:Nat}{t:W4}{z:Int}{i3 i4:Nat}{listed:Array Bool}{X:World}(h:QW w b1 b6 t z i3 i4 listed X)(h34:i3≠i4)(hin:i3<listed.size):QW w b1 b6 t z i3 i4 (listed.setIfInBounds i3 true) (jQ X w.heap.size t):=by
 have hne:=h.ne;refine⟨?_,?_,h.fin.set_ h.ne6.1,h.ne,h.ne6,kD h.bel (jN _) _ _ _ _⟩
 ·rw [if_pos (Reg.set_self hin)];exact h.st.put t
 ·rw [getD_set_ne false h34];exact h.en.set_ (by omega)
theorem QW.put4{w:World}{b1 b6:Nat}{t:W4}{z:Int}{i3 i4:Nat}{listed:Array Bool}{X:World}(h:QW w b1 b6 t z i3 i4 listed X)(h34:i3≠i4)(hin:i4<listed.size):QW w b1 b6 t z i3 i4 (listed.setIfInBounds i4 true) (jO X b1 z 0):=by
 have hne:=h.ne;refine⟨?_,?_,h.fin.other h.ne6.2,h.ne,h.ne6,(h.bel.setCell (by simp;omega) _).setCell (by simp;omega) _⟩
 ·rw [getD_set_ne false (Ne.symm h34)];exact h.st.end_ (by omega)
 ·rw [if_pos (Reg.set_self hin)];exact h.en.put z 0
structure zR(w:World)(b1 b6 gl:Nat)(L:List (Nat×Nat))(t:W4)(z:Int)(i3 i4:Nat)(listed:Array Bool)(X:World):Prop where
 b:QW w b1 b6 t z i3 i4 listed X
 prs:jE X gl L
 ne:gl≠w.heap.size/\gl≠b1
theorem zR.same{w:World}{b1 b6 gl:Nat}{L:List (Nat×Nat)}{t:W4}{z:Int}{i3 i4:Nat}{listed:Array Bool}{X Y:World}{i:Nat}(h:zR w b1 b6 gl L t z i3 i4 listed X)(h3:i≠i3)(h4:i≠i4)(hb:Below X.heap.size X Y):zR w b1 b6 gl L t z i3 i4 (listed.setIfInBounds i true) Y:=⟨h.b.same h3 h4 hb,h.prs.up hb,h.ne⟩
theorem zR.put3{w:World}{b1 b6 gl:Nat}{L:List (Nat×Nat)}{t:W4}{z:Int}{i3 i4:Nat}{listed:Array Bool}{X:World}(h:zR w b1 b6 gl L t z i3 i4 listed X)(h34:i3≠i4)(hin:i3<listed.size):zR w b1 b6 gl L t z i3 i4 (listed.setIfInBounds i3 true) (jQ X w.heap.size t):=⟨h.b.put3 h34 hin,h.prs.set_ h.ne.1,h.ne⟩
theorem zR.put4{w:World}{b1 b6 gl:Nat}{L:List (Nat×Nat)}{t:W4}{z:Int}{i3 i4:Nat}{listed:Array Bool}{X:World}(h:zR w b1 b6 gl L t z i3 i4 listed X)(h34:i3≠i4)(hin:i4<listed.size):zR w b1 b6 gl L t z i3 i4 (listed.setIfInBounds i4 true) (jO X b1 z 0):=⟨h.b.put4 h34 hin,h.prs.end_ h.ne.2,h.ne⟩
structure ym(w:World)(b1 b6 gl:Nat)(L:List (Nat×Nat))(t:W4)(z:Int)(i3 i4:Nat)(listed:Array Bool)(X:World):Prop where
 b:QW w b1 b6 t z i3 i4 listed X
 yes:listed.getD 1 false=true->jE X gl L
 no:listed.getD 1 false=false->X.heap.size=gl
 ne:gl≠w.heap.size/\gl≠b1
theorem ym.same{w:World}{b1 b6 gl:Nat}{L:List (Nat×Nat)}{t:W4}{z:Int}{i3 i4:Nat}{listed:Array Bool}{X:World}{i:Nat}(h:ym w b1 b6 gl L t z i3 i4 listed X)(h1:i≠1)(h3:i≠i3)(h4:i≠i4):ym w b1 b6 gl L t z i3 i4 (listed.setIfInBounds i true) X:=
 ⟨h.b.same h3 h4 (Below.refl _ _),fun e=>h.yes (by rwa [getD_set_ne false h1] at e),fun e=>h.no (by rwa [getD_set_ne false h1] at e),h.ne⟩
theorem ym.call{w:World}{b1 b6 gl:Nat}{L:List (Nat×Nat)}{t:W4}{z:Int}{i3 i4:Nat}{listed:Array Bool}{X Y:World}{i:Nat}(h:ym w b1 b6 gl L t z i3 i4 listed X)(hl:listed.getD 1 false=true)(h1:i≠1)(h3:i≠i3)(h4:i≠i4)(hb:Below X.heap.size X Y):ym w b1 b6 gl L t z i3 i4 (listed.setIfInBounds i true) Y:=
 ⟨h.b.same h3 h4 hb,fun _=>(h.yes hl).up hb,(fun e=>by rw [getD_set_ne false h1,hl] at e;cases e),h.ne⟩
theorem ym.make{w:World}{b1 b6 gl:Nat}{L:List (Nat×Nat)}{t:W4}{z:Int}{i3 i4:Nat}{listed:Array Bool}{X:World}(h:ym w b1 b6 gl L t z i3 i4 listed X)(hl:listed.getD 1 false=false)(hin:1<listed.size)(h3:1≠i3)(h4:1≠i4){arr:Array Value}{ty:TypeId}
  (ha:∀i p,L[i]? =some p->arr[i*2]? =some (.int .i64 (p.1:Int))/\arr[i*2+1]? =some (.int .i64 (p.2:Int))):ym w b1 b6 gl L t z i3 i4 (listed.setIfInBounds 1 true) (X.alloc (.cells arr ty)):=
 ⟨h.b.same h3 h4 (j3 _ _),fun _=>by rw [<-h.no hl];exact pairs_blk (j1 X _) ha,(fun e=>by rw [Reg.set_self hin] at e;cases e),h.ne⟩
theorem ym.put3{w:World}{b1 b6 gl:Nat}{L:List (Nat×Nat)}{t:W4}{z:Int}{i3 i4:Nat}{listed:Array Bool}{X:World}(h:ym w b1 b6 gl L t z i3 i4 listed X)(h34:i3≠i4)(h1:i3≠1)(hin:i3<listed.size):ym w b1 b6 gl L t z i3 i4 (listed.setIfInBounds i3 true) (jQ X w.heap.size t):=
 ⟨h.b.put3 h34 hin,fun e=>(h.yes (by rwa [getD_set_ne false h1] at e)).set_ h.ne.1,fun e=>by rw [<-h.no (by rwa [getD_set_ne false h1] at e)];simp [jQ,World.setCell],h.ne⟩
theorem ym.put4{w:World}{b1 b6 gl:Nat}{L:List (Nat×Nat)}{t:W4}{z:Int}{i3 i4:Nat}{listed:Array Bool}{X:World}(h:ym w b1 b6 gl L t z i3 i4 listed X)(h34:i3≠i4)(h1:i4≠1)(hin:i4<listed.size):ym w b1 b6 gl L t z i3 i4 (listed.setIfInBounds i4 true) (jO X b1 z 0):=
 ⟨h.b.put4 h34 hin,fun e=>(h.yes (by rwa [getD_set_ne false h1] at e)).end_ h.ne.2,fun e=>by rw [<-h.no (by rwa [getD_set_ne false h1] at e)];simp [jO,World.setCell],h.ne⟩
theorem hexI_yes{b:Nat}(h:(qJ b).2=true):xT b=((qJ b).1:Int):=by
 unfold qJ at h ⊢;unfold xT
 by_cases d:48<=b/\b<=57
 ·have e:digB b=true:=by unfold digB;simp [d.1,d.2]
  rw [if_pos d,e];simp;omega
 ·have e:digB b=false:=by rw [<-Bool.not_eq_true];unfold digB;simp;omega
  rw [e] at h ⊢;rw [if_neg d]
  by_cases f:97<=b/\b<=102
  ·rw [if_pos f];simp [f.1,f.2];omega
  ·rw [if_neg f]
   by_cases g:65<=b/\b<=70
   ·rw [if_pos g];simp [f,g.1,g.2];omega
   ·simp [f,g] at h
theorem hexI_no{b:Nat}(_:b<256)(h:(qJ b).2=false):xT b= -1:=by
 unfold qJ at h;unfold xT
 by_cases d:48<=b/\b<=57
 ·have e:digB b=true:=by unfold digB;simp [d.1,d.2]
  rw [e] at h;simp at h
 ·have e:digB b=false:=by rw [<-Bool.not_eq_true];unfold digB;simp;omega
  rw [e] at h;rw [if_neg d]
  by_cases f:97<=b/\b<=102
  ·simp [f.1,f.2] at h
  ·rw [if_neg f]
   by_cases g:65<=b/\b<=70
   ·simp [f,g.1,g.2] at h
   ·rw [if_neg g]
def ZF(gl n:Nat)(t:W4)(z:Int):Nat->Value
 |0=>.slice (some ⟨gl,0,none⟩) n n
 |1=>.agg #[.int .u64 t.a,.int .u64 t.b,.int .u64 t.c,.int .u64 t.d]
 |2=>.agg #[.int .i64 z,.int .i64 0]
 |_=>undef
def qD(v:Int)(gl:Nat)(t:W4)(z:Int):Nat->Value
 |0=>.agg #[.int .i64 v,.int .i64 v]
 |1=>.slice (some ⟨gl,0,none⟩) 1 1
 |2=>.agg #[.int .u64 t.a,.int .u64 t.b,.int .u64 t.c,.int .u64 t.d]
 |3=>.agg #[.int .i64 z,.int .i64 0]
 |_=>undef
def qg(gl n c:Nat)(fl:Bool)(t:W4)(z:Int):Nat->Value
 |0=>.slice (some ⟨gl,0,none⟩) n n
 |1=>.int .u8 (c:Int)
 |2=>.bool fl
 |3=>.agg #[.int .u64 t.a,.int .u64 t.b,.int .u64 t.c,.int .u64 t.d]
 |4=>.agg #[.int .i64 z,.int .i64 0]
 |_=>undef
end
end Go.Proofs.YtnmalggmbeipaaaGreatDoor
