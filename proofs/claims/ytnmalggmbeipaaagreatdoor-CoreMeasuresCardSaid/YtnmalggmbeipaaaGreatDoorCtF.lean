/- A part of the proof. -/
import Derived.Test.YtnmalggmbeipaaaGreatDoorCoK
import Derived.Lib.MakeNoZero
import Derived.Test.YtnmalggmbeipaaaGreatDoorRegion
set_option maxRecDepth 100000
set_option maxHeartbeats 16000000
namespace Go.Proofs.YtnmalggmbeipaaaGreatDoor
section
section
open Go Go.RowKit
attribute [local go_sem ↓] Go.wp_at_zero Go.wp_at_succ
theorem Tryz.liesSb:liesAt Tryz.prog (Tryz.prog).depth 90 (2/(Tryz.prog).cellsOf 90) 0 90 1=true:=by kernel_rfl
theorem Tryz.neSb:(90:TypeId)≠5:=by decide
abbrev zt(B b:Nat)(l:List UInt8)(w:World):Prop:=Lib.IsBuilder 90 5 B b (Lib.byteCells l) w
theorem U0(b:Nat)(w:World)(h0:w.cell? ⟨b,0,none⟩=some (.pointer (some ⟨b,0,none⟩))):
  Calls Tryz.prog 85 #[.pointer (some ⟨b,0,none⟩)] w fun e w'=>e=.returned (.tuple #[])/\w'=w:=by
 obtain⟨j,hj,_⟩:=Option.map_eq_some_iff.1 Tryz.sizeBd
 go_enter Tryz.func85,Tryz.ntmps85
 go_wp2
 rw [Lib.run_neq_ptr_same w _ Tryz.ptrBd hj]
 go_wp2
 go_end0
 exact⟨rfl,rfl⟩
theorem yV(b:Nat)(w:World)(h0:w.cell? ⟨b,0,none⟩=some (.pointer none))(hsh:w.shape? b=some (90,2))(hfz:w.frozen? ⟨b,0,none⟩=false):
  Calls Tryz.prog 85 #[.pointer (some ⟨b,0,none⟩)] w fun e w'=>e=.returned (.tuple #[])/\w'=w.setCell ⟨b,0,none⟩ (.pointer (some ⟨b,0,none⟩)):=by
 obtain⟨j,hj,hjs⟩:=Option.map_eq_some_iff.1 Tryz.sizeBd
 go_enter Tryz.func85,Tryz.ntmps85
 go_wp2
 rw [Lib.run_to_unsafe w ⟨b,0,none⟩ Tryz.ptrBd Tryz.unsBd hj (by rw [hjs];decide) hsh (Nat.zero_lt_succ 1)];simp only [Result.andThen];rw [Oper.upon_value]
 go_wp2
 rw [run_callFunc_extern Tryz.func131 (by kernel_rfl) (by kernel_rfl) (by kernel_rfl) (e:=Extern.AbiNoEscape.same) (by kernel_rfl)];rw [Lib.run_noEscape];simp only [Result.andThen];rw [Oper.upon_value]
 go_wp2
 rw [Lib.run_from_unsafe w ⟨b,0,none⟩ Tryz.unsBd Tryz.ptrBd hj hsh Tryz.liesSb];simp only [Result.andThen];rw [Oper.upon_value]
 go_wp2
 go_end0
 exact⟨rfl,rfl⟩
theorem Qh(B b:Nat)(l:List UInt8)(w:World)(h:zt B b l w)(h0:l≠ []):
  Calls Tryz.prog 45 #[.pointer (some ⟨b,0,none⟩)] w fun e w'=>e=.returned (.string ⟨l.toArray⟩)/\Below B w w':=by
 obtain⟨p,hB,v,hbk,hown,hne⟩:∃p,Lib.BuilderAt 90 5 B b p (Lib.byteCells l) w:=by
  rcases h with h|h
  ·exact⟨_,h⟩
  ·exact⟨_,h⟩
 have hl0:l.length≠0:=by simpa using h0
 rw [Lib.byteCells_length] at hown
 obtain⟨g,cap,cur,rfl,hbg,hg,hnc,hcm,hcs,htake⟩:∃g cap cur,v=.slice (some ⟨g,0,none⟩) l.length cap/\B<=g/\w.heap[g]? =some (.cells cur 5 (0,0))/\l.length<=cap/\cap<=maxLen/\cur.size=cap*1/\cur.toList.take (l.length*1)=Lib.byteCells l:=by
  rcases hown.2 with ⟨_,hz⟩|⟨g,cap,cur,hv,r⟩
  ·exact absurd hz hl0
  ·exact⟨g,cap,cur,hv,r⟩
 have c1:w.drew.cell? ⟨b,1,none⟩=some (.slice (some ⟨g,0,none⟩) l.length cap):=by
  have:w.drew.heap[b]? =some (.cells #[p,.slice (some ⟨g,0,none⟩) l.length cap] 90 (0,0)):=hbk;rw [Lib.cell_of_heap this];rfl
 have hSD:(Builtin.unsafeSliceData_ #[88] 163 #[.slice (some ⟨g,0,none⟩) l.length cap]).run Tryz.prog w.drew=.ok (.pointer (some ⟨g,0,none⟩)) w.drew:=
  Lib.run_unsafeSliceData_row _ _ _ _ _ _ (by omega)
 have hUS:(Builtin.unsafeString_ #[163,3] 9 #[.pointer (some ⟨g,0,none⟩),.int .i64 l.length]).run Tryz.prog w.drew=.ok (.string ⟨l.toArray⟩) (w.drew.freeze ⟨g,0,none⟩ l.length):=by
  refine Lib.run_unsafeString_row w.drew 163 3 9 5 Tryz.pbyBd Tryz.cellBd g cur.size (by have hg':w.drew.heap[g]? =some (.cells cur 5 (0,0)):=hg;simp [World.shape?,hg']) l h0 (by omega) (by unfold maxLen at hcm;omega) ?_;intro j x hx;exact hown.cells (g:=g) rfl j (.int .u8 x.toNat) (by simp [Lib.byteCells,hx])
 clear h hown hne htake hcs hcm hg hbk
 go_enter Tryz.func45,Tryz.ntmps45
 go_wp2
 go_region
 all_goals (go_wp2;go_ret;exact⟨rfl,Lib.below_freeze (Below.drew (Below.refl B w)) (p:=⟨g,0,none⟩) hbg _⟩)
theorem V2(W:World)(q:Option Addr):(Builtin.unsafeString_ #[163,3] 9 #[.pointer q,.int .i64 0]).run Tryz.prog W=.ok (.string .empty) W:=Lib.run_unsafeString_none W _ _ _ q
theorem QZ(B b:Nat)(p:Value)(w:World)(hbk:w.heap[b]? =some (.cells #[p,.slice none 0 0] 90 (0,0))):
  Calls Tryz.prog 45 #[.pointer (some ⟨b,0,none⟩)] w fun e w'=>e=.returned (.string ⟨#[]⟩)/\Below B w w':=by
 have hUS:=V2
 have c1:w.drew.cell? ⟨b,1,none⟩=some (.slice none 0 0):=by
  have:w.drew.heap[b]? =some (.cells #[p,.slice none 0 0] 90 (0,0)):=hbk;rw [Lib.cell_of_heap this];rfl
 have hSD:(Builtin.unsafeSliceData_ #[88] 163 #[.slice none 0 0]).run Tryz.prog w.drew=.ok (.pointer none) w.drew:=rfl
 go_enter Tryz.func45,Tryz.ntmps45
 go_wp2
 go_region
 all_goals (go_wp2;go_ret;exact⟨rfl,Below.drew (Below.refl B w)⟩)
theorem K9(B b g:Nat)(p:Value)(cur:Array Value)(w:World)(hBw:B<=w.heap.size)(hbk:w.heap[b]? =some (.cells #[p,.slice (some ⟨g,0,none⟩) 0 0] 90 (0,0)))(hg:w.heap[g]? =some (.cells cur 5 (0,0))):
  Calls Tryz.prog 45 #[.pointer (some ⟨b,0,none⟩)] w fun e w'=>e=.returned (.string ⟨#[]⟩)/\Below B w w':=by
 have hUS:=V2
 have hlt:b<w.heap.size:=by
  rcases Nat.lt_or_ge b w.heap.size with h'|h'
  ·exact h'
  ·simp [Array.getElem?_eq_none h'] at hbk
 have c1:w.drew.cell? ⟨b,1,none⟩=some (.slice (some ⟨g,0,none⟩) 0 0):=by
  have:w.drew.heap[b]? =some (.cells #[p,.slice (some ⟨g,0,none⟩) 0 0] 90 (0,0)):=hbk;rw [Lib.cell_of_heap this];rfl
 have hSD:(Builtin.unsafeSliceData_ #[88] 163 #[.slice (some ⟨g,0,none⟩) 0 0]).run Tryz.prog w.drew=.ok (.pointer (some ⟨w.drew.heap.size,0,none⟩)) (w.drew.alloc (.view ⟨g,0,none⟩ 5)):=
  Lib.run_unsafeSliceData_zero w.drew _ _ 5 Tryz.pbyBd ⟨g,0,none⟩ 0 (5,cur.size) (by have hg':w.drew.heap[g]? =some (.cells cur 5 (0,0)):=hg;simp [World.shape?,hg'])
 have c2:(w.drew.alloc (.view ⟨g,0,none⟩ 5)).cell? ⟨b,1,none⟩=some (.slice (some ⟨g,0,none⟩) 0 0):=by
  have:(w.drew.alloc (.view ⟨g,0,none⟩ 5)).heap[b]? =_:=(Lib.alloc_old w.drew _ b hlt).trans hbk;rw [Lib.cell_of_heap this];rfl
 have c3:(w.alloc (.view ⟨g,0,none⟩ 5)).drew.cell? ⟨b,1,none⟩=some (.slice (some ⟨g,0,none⟩) 0 0):=c2;have c0:w.cell? ⟨b,1,none⟩=some (.slice (some ⟨g,0,none⟩) 0 0):=c1
 go_enter Tryz.func45,Tryz.ntmps45
 go_wp2
 go_region
 all_goals (go_wp2;go_ret;exact⟨rfl,(Below.drew (Below.refl B w)).alloc hBw _⟩)
theorem Qi(B b g cap:Nat)(p:Value)(w:World)(hc0:cap≠0)(hbk:w.heap[b]? =some (.cells #[p,.slice (some ⟨g,0,none⟩) 0 cap] 90 (0,0))):
  Calls Tryz.prog 45 #[.pointer (some ⟨b,0,none⟩)] w fun e w'=>e=.returned (.string ⟨#[]⟩)/\Below B w w':=by
 have hUS:=V2
 have c1:w.drew.cell? ⟨b,1,none⟩=some (.slice (some ⟨g,0,none⟩) 0 cap):=by
  have:w.drew.heap[b]? =some (.cells #[p,.slice (some ⟨g,0,none⟩) 0 cap] 90 (0,0)):=hbk;rw [Lib.cell_of_heap this];rfl
 have hSD:(Builtin.unsafeSliceData_ #[88] 163 #[.slice (some ⟨g,0,none⟩) 0 cap]).run Tryz.prog w.drew=.ok (.pointer (some ⟨g,0,none⟩)) w.drew:=
  Lib.run_unsafeSliceData_row _ _ _ _ _ _ hc0
 clear hc0
 go_enter Tryz.func45,Tryz.ntmps45
 go_wp2
 go_region
 all_goals (go_wp2;go_ret;exact⟨rfl,Below.drew (Below.refl B w)⟩)
theorem sb_string(B b:Nat)(l:List UInt8)(w:World)(h:zt B b l w)(hBw:B<=w.heap.size):
  Calls Tryz.prog 45 #[.pointer (some ⟨b,0,none⟩)] w fun e w'=>e=.returned (.string ⟨l.toArray⟩)/\Below B w w':=by
 cases l with
 |cons x r=>exact Qh B b (x::r) w h (by simp)
 |nil=>
  obtain⟨p,hB,v,hbk,hown,hne⟩:∃p,Lib.BuilderAt 90 5 B b p [] w:=by
   rcases h with h|h
   ·exact⟨_,h⟩
   ·exact⟨_,h⟩
  rcases hown.2 with ⟨rfl,_⟩|⟨g,cap,cur,rfl,hbg,hg,_,_,_,_⟩
  ·exact QZ B b p w hbk
  ·by_cases hc0:cap=0
   ·subst hc0;exact K9 B b g p cur w hBw hbk hg
   ·exact Qi B b g cap p w hc0 hbk
theorem zt.up{B b:Nat}{l:List UInt8}{w w':World}(h:zt B b l w)(hb:Below w.heap.size w w'):zt B b l w':=by
 have key:∀p,Lib.BuilderAt 90 5 B b p (Lib.byteCells l) w->Lib.BuilderAt 90 5 B b p (Lib.byteCells l) w':=by
  intro p ⟨h1,v,h2,h3,h4⟩;exact⟨h1,v,(hb.block b (jS h2)).trans h2,vX h3 hb,h4⟩
 exact h.imp (key _) (key _)
theorem zt.le{B b:Nat}{l:List UInt8}{w:World}(h:zt B b l w):B<=b/\b<w.heap.size:=by
 rcases h with h|h
 ·exact⟨h.1,h.lt⟩
 ·exact⟨h.1,h.lt⟩
theorem sb_grow(B b n:Nat)(w:World)(hB:B<=b)(hbk:w.heap[b]? =some (.cells #[.pointer (some ⟨b,0,none⟩),.slice none 0 0] 90 (0,0)))(hBw:B<=w.heap.size)(hn:n<=281474976710656):
  Calls Tryz.prog 86 #[.pointer (some ⟨b,0,none⟩),.int .i64 n] w fun e w'=>e=.returned (.tuple #[])/\(Lib.BuilderAt 90 5 B b (.pointer (some ⟨b,0,none⟩)) [] w'/\Below B w w'):=by
 obtain⟨cs,hrun,hle,hmax⟩:=Lib.run_makeNoZero (P:=Tryz.prog) w.drew #[3] 88 5 Tryz.bytBd n hn
 have hw:IntKind.i64.wrap (IntKind.i64.wrap 0+(n:Int))=n:=by
  rw [IntKind.wrap_i64,IntKind.wrap_i64];omega
 have hcall:(callFunc 132 #[.int .i64 (n:Int)]).run Tryz.prog w.drew=.ok (.value (.slice (some ⟨w.drew.heap.size,0,none⟩) n cs.size)) (w.drew.drew.drew.alloc (.cells cs 5)):=by
  rw [run_callFunc_extern Tryz.func132 (by kernel_rfl) (by kernel_rfl) (by kernel_rfl) (e:=Extern.BytealgMakeNoZero.makeNoZero #[3] #[88]) (by kernel_rfl),hrun];rfl
 have c1:w.drew.cell? ⟨b,1,none⟩=some (.slice none 0 0):=by
  have:w.drew.heap[b]? =_:=hbk;rw [Lib.cell_of_heap this];rfl
 have hlt:b<w.heap.size:=by
  rcases Nat.lt_or_ge b w.heap.size with h'|h'
  ·exact h'
  ·simp [Array.getElem?_eq_none h'] at hbk
 have c2:(w.alloc (.cells cs 5)).cell? ⟨b,1,none⟩=some (.slice none 0 0):=by
  have:(w.alloc (.cells cs 5)).heap[b]? =_:=(Lib.alloc_old w _ b hlt).trans hbk;rw [Lib.cell_of_heap this];rfl
 have f2:(w.alloc (.cells cs 5)).frozen? ⟨b,1,none⟩=false:=Lib.frozen_of_heap ((Lib.alloc_old w _ b hlt).trans hbk) 1
 have hcopy:∀W:World,(Builtin.copy_ #[88,88] 3 #[.slice (some ⟨w.heap.size,0,none⟩) 0 cs.size,.slice none 0 0]).run Tryz.prog W=.ok (goInt 0) W:=
  fun W=>run_copy_none W 88 88 3 5 _ _ 0 cs.size 0 0 Tryz.bytBd (by kernel_rfl) rfl
 have hfin:=Lib.grown_fresh (T:=90) (e:=5) (cs:=cs) hB hbk hBw (hmax (by unfold maxLen;omega)) Tryz.neSb;have HFX:=j0 hfin;clear hfin hw
 go_enter Tryz.func86,Tryz.ntmps86
 go_wp2
 go_region
 all_goals (go_wp2;go_end0;exact⟨rfl,by rw [<-World.setCell_alloc_past _ _ _ _ hlt];exact HFX.out⟩)
theorem sb_Grow(B b n:Nat)(w:World)(hB:B<=b)(hbk:w.heap[b]? =some (.cells #[.pointer none,.slice none 0 0] 90 (0,0)))(hBw:B<=w.heap.size)(hn:n<=281474976710656):
  Calls Tryz.prog 43 #[.pointer (some ⟨b,0,none⟩),.int .i64 n] w fun e w'=>e=.returned (.tuple #[])/\(Lib.BuilderAt 90 5 B b (.pointer (some ⟨b,0,none⟩)) [] w'/\Below B w w'):=by
 have hbk1:(w.setCell ⟨b,0,none⟩ (.pointer (some ⟨b,0,none⟩))).heap[b]? =some (.cells #[.pointer (some ⟨b,0,none⟩),.slice none 0 0] 90 (0,0)):=by
  simp [World.setCell,Array.getElem?_modify,hbk]
 have c1:(w.setCell ⟨b,0,none⟩ (.pointer (some ⟨b,0,none⟩))).cell? ⟨b,1,none⟩=some (.slice none 0 0):=by rw [Lib.cell_of_heap hbk1];rfl
 have hb1:Below B w (w.setCell ⟨b,0,none⟩ (.pointer (some ⟨b,0,none⟩))):=(Below.refl B w).setCell (p:=⟨b,0,none⟩) hB _;have hU:Lib.BuilderAt 90 5 B b (.pointer (some ⟨b,0,none⟩)) [] (w.setCell ⟨b,0,none⟩ (.pointer (some ⟨b,0,none⟩))):=⟨hB,.slice none 0 0,hbk1,World.ownsRow_nil _ _ _ _,by simp [Value.ownBlock]⟩;have c1':(w.setCell ⟨b,0,none⟩ (.pointer (some ⟨b,0,none⟩))).drew.cell? ⟨b,1,none⟩=some (.slice none 0 0):=c1;have CK:=j0 (yV b w (by rw [Lib.cell_of_heap hbk];rfl) (by simp [World.shape?,hbk]) (Lib.frozen_of_heap hbk 0));have GR:=j0 (sb_grow B b n (w.setCell ⟨b,0,none⟩ (.pointer (some ⟨b,0,none⟩))).drew hB hbk1 (by simpa [World.setCell,World.drew,-World.drew_eq] using hBw) hn);have HU:=j0 hU;have HB1:=j0 hb1;clear hU hb1 hbk1
 go_enter Tryz.func43,Tryz.ntmps43
 go_wp2_with fail
 refine CK.out.mono ?_;rintro e w' ⟨rfl,rfl⟩
 go_wp2_with fail
 go_region
 all_goals go_wp2_with fail
 all_goals first
  |(refine GR.out.mono ?_;rintro e w' ⟨rfl,h1,h2⟩;go_wp2_with fail;go_end0;exact⟨rfl,h1,HB1.out.drew.trans h2⟩)
  |(go_end0;exact⟨rfl,HU.out.drew,HB1.out.drew⟩)
end
end
end Go.Proofs.YtnmalggmbeipaaaGreatDoor
namespace Go.Proofs.YtnmalggmbeipaaaGreatDoor
section
section
section
open Go Go.RowKit
attribute [local go_sem ↓] Go.wp_at_zero Go.wp_at_succ
structure KeepT(w w':World):Prop where
 size:w.heap.size<=w'.heap.size
 row:∀(g:Nat) (cs:Array Value) (t:TypeId) (fr:Nat×Nat),w.heap[g]? =some (.cells cs t fr)->t≠5->t≠90->w'.heap[g]? =some (.cells cs t fr)
theorem KeepT.refl(w:World):KeepT w w:=⟨jN _,fun _ _ _ _ h _ _=>h⟩
theorem KeepT.trans{w w1 w2:World}(h:KeepT w w1)(k:KeepT w1 w2):KeepT w w2:=⟨Nat.le_trans h.size k.size,fun g cs t fr e h1 h2=>k.row g cs t fr (h.row g cs t fr e h1 h2) h1 h2⟩
theorem KeepT.setB{w:World}{b:Nat}{cs:Array Value}{fr:Nat×Nat}(hb:w.heap[b]? =some (.cells cs 90 fr))(i:Nat)(v:Value):KeepT w (w.setCell ⟨b,i,none⟩ v):=by
 have s:=grownBy_setCell' w b v;refine⟨by simp only [World.setCell,Array.size_modify];exact jN _,fun g cs' t fr' e h1 h2=> ?_⟩
 have hne:b≠g:=by
  rintro rfl;rw [hb] at e;injection e with e;injection e with _ e;exact h2 e.symm
 simp only [World.setCell,Array.getElem?_modify];rw [if_neg hne];exact e
theorem KeepT.grown{w w':World}{B n:Nat}{v:Value}{xs:List Value}(h:w.ownsRow B 5 1 v n xs)(hg:w.grownBy w' v.ownBlock):KeepT w w':=by
 refine⟨hg.size,fun g cs t fr e h1 h2=> ?_⟩;have hl:=jS e;refine(hg.block g hl (fun e'=> ?_)).trans e
 rcases h.2 with ⟨rfl,_⟩|⟨g',cap,cur,rfl,_,hh,_⟩
 ·cases e'
 ·injection e' with e';subst e';rw [hh] at e;injection e with e;injection e with _ e;exact h1 e.symm
theorem KeepT.owns{w w':World}{B m n:Nat}{t:TypeId}{v:Value}{xs:List Value}(h:w.ownsRow B t m v n xs)(hk:KeepT w w')(h1:t≠5)(h2:t≠90):w'.ownsRow B t m v n xs:=by
 refine⟨h.1,?_⟩
 rcases h.2 with h3|⟨g,cap,cur,e,hb,hh,r⟩
 ·exact .inl h3
 ·exact .inr ⟨g,cap,cur,e,hb,hk.row _ _ _ _ hh h1 h2,r⟩
theorem sb_checkK(B b:Nat)(bs:List Value)(w:World)(h:Lib.IsBuilder 90 5 B b bs w):
  Calls Tryz.prog 85 #[.pointer (some ⟨b,0,none⟩)] w fun e w'=>e=.returned (.tuple #[])/\(Lib.BuilderAt 90 5 B b (.pointer (some ⟨b,0,none⟩)) bs w'/\Below B w w'/\KeepT w w'):=by
 rcases h with h|h
 ·obtain⟨_,v,hbk,_⟩:=id h;refine(yV b w h.cell0 h.shape h.frozen0).mono ?_;rintro e w' ⟨rfl,rfl⟩;exact⟨rfl,h.used _,(Below.refl B w).setCell (p:=⟨b,0,none⟩) h.1 _,KeepT.setB hbk _ _⟩
 ·refine(U0 b w h.cell0).mono ?_;rintro e w' ⟨rfl,rfl⟩;exact⟨rfl,h,Below.refl B _,KeepT.refl _⟩
theorem sb_writeK(B b:Nat)(bs:List Value)(s:ByteArray)(w:World)(h:Lib.IsBuilder 90 5 B b bs w)(hlen:bs.length+s.size<=140737488355328)(hBw:B<=w.heap.size):
  Calls Tryz.prog 87 #[.pointer (some ⟨b,0,none⟩),.string s] w fun e w'=>e=.returned (.tuple #[.int .i64 s.size,.nilIface])/\(Lib.BuilderAt 90 5 B b (.pointer (some ⟨b,0,none⟩)) (bs++Lib.strCells s) w'/\Below B w w'/\KeepT w w'):=by
 obtain⟨i0,hi,hz0,hz1,hz2⟩:=info_parts Tryz.infoBd;have CK:=j0 (sb_checkK B b bs w h);clear h
 go_enter Tryz.func87,Tryz.ntmps87
 go_wp2_with fail
 refine CK.out.mono ?_;rintro e w1 ⟨rfl,h1,hb1,hk1⟩;obtain⟨hB,v,hbk,hown,hne⟩:=h1;have c0:w1.cell? ⟨b,0,none⟩=some (.pointer (some ⟨b,0,none⟩)):=by rw [Lib.cell_of_heap hbk];rfl
 have c1:w1.cell? ⟨b,1,none⟩=some v:=by rw [Lib.cell_of_heap hbk];rfl
 go_wp2_with (at_builtin;refine Lib.wpList_append_own_string _ rfl _ _ 88 9 rfl B 5 i0 Tryz.bytBd Tryz.strBd hi hz0 hz1 hz2 _ _ _ rfl hown s rfl ?c3 ?c4 ?c5 ?_)
 case c3=>unfold maxLen;omega
 case c4=>omega
 case c5=>have:=hb1.size;omega
 intro v' w2 hown' hgrow _
 have hlt:b<w1.heap.size:=by
  rcases Nat.lt_or_ge b w1.heap.size with h'|h'
  ·exact h'
  ·simp [Array.getElem?_eq_none h'] at hbk
 have hb2:w2.heap[b]? =some (.cells #[.pointer (some ⟨b,0,none⟩),v] 90 (0,0)):=by
  rw [hgrow.block b hlt (fun e=>hne e.symm)];exact hbk
 have d0:w2.cell? ⟨b,0,none⟩=some (.pointer (some ⟨b,0,none⟩)):=by rw [Lib.cell_of_heap hb2];rfl
 have d1:w2.cell? ⟨b,1,none⟩=some v:=by rw [Lib.cell_of_heap hb2];rfl
 have f1:w2.frozen? ⟨b,1,none⟩=false:=Lib.frozen_of_heap hb2 1
 obtain⟨ao,n',cap,rfl⟩:∃ao n' cap,v'=.slice ao n' cap:=by
  rcases hown'.2 with ⟨hv,_⟩|⟨g,cap,cur,hv,_⟩
  ·exact⟨_,_,_,hv⟩
  ·exact⟨_,_,_,hv⟩
 go_wp2
 go_ret2
 refine⟨rfl,?_,?_,?_⟩
 ·exact Lib.BuilderAt.put (T:=90) (e:=5) hB hb2 (bs':=bs++Lib.strCells s) (by simpa [Lib.strCells_length] using hown') Tryz.neSb
 ·exact(hb1.grown hgrow (by have:=hb1.size;omega) (fun k hk=>(hown.lt k hk).1)).setCell (p:=⟨b,1,none⟩) hB _
 ·exact hk1.trans ((KeepT.grown hown hgrow).trans (KeepT.setB hb2 _ _))
theorem Uc{B b:Nat}{l:List UInt8}{w:World}(x:List Nat)(h:zt B b l w)(hlen:l.length+x.length<=1099511627776):
  Calls Tryz.prog 87 #[.pointer (some ⟨b,0,none⟩),.string (baN x)] w fun e w'=>e=.returned (.tuple #[.int .i64 (x.length:Int),.nilIface])/\zt B b (l++byN x) w'/\Below B w w'/\KeepT w w':=by
 refine(sb_writeK B b _ (baN x) w h (by rw [Lib.byteCells_length,baN_size];omega) (by have:=h.le;omega)).mono fun e w' ⟨he,hW,hb,hk⟩=>⟨by rw [he,baN_size],.inr ?_,hb,hk⟩
 rw [Lib.byteCells_append,<-strCells_baN];exact hW
end
end
section
section
open Go Go.RowKit
structure Pc where
 c:Co
 p:Option Addr
 l:List Nat
def Pc.vals(x:Pc):List Value:= [.pointer x.p,.string (baN x.l)]
def Pc.out(x:Pc):List Nat:=Kl x.c++x.l
structure PcAt(w:World)(x:Pc):Prop where
 at_:jD w x.c (.pointer x.p)
 one:x.c=.nil\/x.l= []
 fit:zZ x.c
def yr:List Pc->List Nat
 | []=> []
 |x::r=>yr r++x.out
theorem Kf(P:List Pc)(x:Pc):yr (P++ [x])=x.out++yr P:=by
 induction P with
 |nil=>simp [yr]
 |cons y r ih=>simp [yr,ih]
theorem Xo(P Q:List Pc):yr (P++Q)=yr Q++yr P:=by
 induction P with
 |nil=>simp [yr]
 |cons y r ih=>simp [yr,ih]
def vN(P:List Pc):Nat:=(P.map fun x=>4*jk x.c+1).sum
theorem yw(P Q:List Pc):vN (P++Q)=vN P+vN Q:=by simp [vN]
theorem measP_len(P:List Pc):P.length<=vN P:=by
 unfold vN
 induction P with
 |nil=>exact jN _
 |cons x r ih=>
  simp only [List.map_cons,List.sum_cons,List.length_cons];omega
def zo(k:Int)(s:W4)(z:Bool)(a b:Co)(pa pb:Option Addr):List Pc:= [⟨.nil,none,(xU k s z).2.2⟩,⟨b,pb,[]⟩,⟨.nil,none,(xU k s z).2.1⟩,⟨a,pa,[]⟩]
theorem four_out(k:Int)(s:W4)(z:Bool)(a b:Co)(p pa pb:Option Addr)(P:List Pc):yr (P++ [⟨.node k s z a b,p,[]⟩])=(xU k s z).1++yr (P++zo k s z a b pa pb):=by
 rw [Kf,Xo];simp [zo,yr,Pc.out,Kl]
theorem four_meas(k:Int)(s:W4)(z:Bool)(a b:Co)(p pa pb:Option Addr)(P:List Pc):vN (P++zo k s z a b pa pb)+1=vN (P++ [⟨.node k s z a b,p,[]⟩]):=by
 rw [yw,yw];simp only [vN,zo,List.map_cons,List.map_nil,List.sum_cons,List.sum_nil,jk];omega
theorem four_at{w:World}{k:Int}{s:W4}{z:Bool}{a b:Co}{pa pb:Option Addr}(ha:jD w a (.pointer pa))(hb:jD w b (.pointer pb))(hf:zZ (.node k s z a b)):∀x∈zo k s z a b pa pb,PcAt w x:=by
 intro x hx;simp only [zo,List.mem_cons,List.not_mem_nil,or_false] at hx
 rcases hx with rfl|rfl|rfl|rfl
 ·exact⟨.nil,.inl rfl,trivial⟩
 ·exact⟨hb,.inr rfl,hf.2.2⟩
 ·exact⟨.nil,.inl rfl,trivial⟩
 ·exact⟨ha,.inr rfl,hf.2.1⟩
theorem xO(P:List Pc):(P.flatMap Pc.vals).length=P.length*2:=by
 induction P with
 |nil=>rfl
 |cons s S ih=>simp [Pc.vals,ih];omega
structure KS(w0:World)(b:Nat)(w:World)(l:List UInt8)(P:List Pc)(v:Value):Prop where
 bd:zt w0.heap.size b l w
 row:w.ownsRow w0.heap.size 157 2 v P.length (P.flatMap Pc.vals)
 be:Below w0.heap.size w0 w
theorem KS.up{w0 w w':World}{b:Nat}{l:List UInt8}{P:List Pc}{v:Value}(h:KS w0 b w l P v)(hb:Below w.heap.size w w'):KS w0 b w' l P v:=
 ⟨h.bd.up hb,vX h.row hb,h.be.trans (hb.mono h.be.size)⟩
theorem KS.wrote{w0 w w':World}{b:Nat}{l l':List UInt8}{P:List Pc}{v:Value}(h:KS w0 b w l P v)(hs:zt w0.heap.size b l' w')(hb:Below w0.heap.size w w')(hk:KeepT w w'):KS w0 b w' l' P v:=
 ⟨hs,hk.owns h.row (by decide) (by decide),h.be.trans hb⟩
theorem KS.pop{w0 w:World}{b:Nat}{l:List UInt8}{P:List Pc}{x:Pc}{v:Value}(h:KS w0 b w l (P++ [x]) v):
  ∃g cap,v=.slice (some ⟨g,0,none⟩) (P.length+1) cap/\P.length+1<=cap/\w.cell? ⟨g,P.length*2,none⟩=some (.pointer x.p)/\w.cell? ⟨g,P.length*2+1,none⟩=some (.string (baN x.l))/\g<w.heap.size/\KS w0 b w l P (.slice (some ⟨g,0,none⟩) P.length cap):=by
 have hl:(P++ [x]).length=P.length+1:=by simp
 rcases h.row.2 with ⟨_,h0⟩|⟨g,cap,cur,rfl,hb,hh,hn,hm,hs,ht⟩
 ·rw [hl] at h0;omega
 ·rw [hl] at hn ht;have key:∀j u,((P++ [x]).flatMap Pc.vals)[j]? =some u->w.cell? ((⟨g,0,none⟩:Addr).add j)=some u:=h.row.cells (g:=g) rfl;have ha:∀j,(⟨g,0,none⟩:Addr).add j=⟨g,j,none⟩:=fun j=>by unfold Addr.add;split<;>simp_all
  have e1:(P++ [x]).flatMap Pc.vals=P.flatMap Pc.vals++x.vals:=by simp
  have k0:=key (P.length*2) (.pointer x.p) (by rw [e1,List.getElem?_append_right (by rw [xO];omega),xO,Nat.sub_self];rfl);have k1:=key (P.length*2+1) (.string (baN x.l)) (by rw [e1,List.getElem?_append_right (by rw [xO];omega),xO,show P.length*2+1-P.length*2=1 by omega];rfl);rw [ha] at k0 k1;refine⟨g,cap,by rw [hl],hn,k0,k1,(Array.getElem?_eq_some_iff.1 hh).1,h.bd,⟨xO P,.inr ⟨g,cap,cur,rfl,hb,hh,by omega,hm,hs,?_⟩⟩,h.be⟩;have:(cur.toList.take ((P.length+1)*2)).take (P.length*2)=((P++ [x]).flatMap Pc.vals).take (P.length*2):=by rw [ht]
  rw [List.take_take,Nat.min_eq_left (by omega)] at this;rw [this,e1,List.take_left' (xO P)]
end
end
end
end Go.Proofs.YtnmalggmbeipaaaGreatDoor
namespace Go.Proofs.YtnmalggmbeipaaaGreatDoor
section
section
open Go Go.RowKit
attribute [local go_sem ↓] Go.wp_at_zero Go.wp_at_succ
attribute [local go_sem] qX
theorem Tryz.infoPc:(Tryz.prog.info? 157).map (fun i=>(i.zero,i.size,i.bytes))=some (some (.agg #[.pointer none,.string ⟨#[]⟩]),2,24):=by kernel_rfl
theorem cells_at{w:World}{g:Nat}{xs:List Value}{t:TypeId}(h:w.heap[g]? =some (.cells xs.toArray t (0,0))):∀j u,xs[j]? =some u->w.cell? ((⟨g,0,none⟩:Addr).add j)=some u:=by
 intro j u hj;have ha:(⟨g,0,none⟩:Addr).add j=⟨g,j,none⟩:=by unfold Addr.add;split<;>simp_all
 rw [ha,jC h j,List.getElem?_toArray,hj]
theorem zt.kept{B b n:Nat}{l:List UInt8}{w w':World}{t:TypeId}{v:Value}{xs:List Value}{m:Nat}(h:zt B b l w)(hr:w.ownsRow B t m v n xs)(hg:w.grownBy w' v.ownBlock)(h1:t≠5)(h2:t≠90):zt B b l w':=by
 have key:∀p,Lib.BuilderAt 90 5 B b p (Lib.byteCells l) w->Lib.BuilderAt 90 5 B b p (Lib.byteCells l) w':=by
  intro p ⟨g1,u,g2,g3,g4⟩;refine⟨g1,u,(hg.block b (jS g2) (fun e=> ?_)).trans g2,qp g3 hg (fun g e e'=> ?_),g4⟩
  ·obtain⟨o,ho,hc⟩:=Kt hr b e.symm
   rcases hr.2 with ⟨rfl,_⟩|⟨g',cap,cur,rfl,_,hh,_⟩
   ·cases e
   ·injection e with e;subst e;rw [hh] at g2;injection g2 with g2;injection g2 with _ g2;exact h2 g2
  ·rcases hr.2 with ⟨rfl,_⟩|⟨g',cap,cur,rfl,_,hh,_⟩
   ·cases e'
   ·injection e' with e';subst e'
    rcases g3.2 with ⟨rfl,_⟩|⟨g'',cap',cur',rfl,_,hh',_⟩
    ·cases e
    ·injection e with e;subst e;rw [hh] at hh';injection hh' with hh';injection hh' with _ hh';exact h1 hh'
 exact h.imp (key _) (key _)
def te8(g:Nat)(n:Nat)(cap:Nat)(s1:ByteArray)(s2:ByteArray)(fb:Nat)(xb:Nat)(q:Nat)(pa:Option Addr)(pb:Option Addr)(gh:Nat×Value):Nat->Value
 |0=>.slice (some ⟨g,0,none⟩) n cap
 |1=>.pointer (some ⟨fb,2,none⟩)
 |2=>.string s2
 |3=>.agg #[.pointer none,.string s2]
 |4=>.pointer (some ⟨xb,0,none⟩)
 |5=>.pointer (some ⟨q,0,none⟩)
 |6=>.pointer (some ⟨q,0,none⟩)
 |7=>.pointer (some ⟨q,7,none⟩)
 |8=>.pointer pb
 |9=>.agg #[.pointer pb,.string ⟨#[]⟩]
 |10=>.pointer (some ⟨fb,1,none⟩)
 |11=>.string s1
 |12=>.agg #[.pointer none,.string s1]
 |13=>.pointer (some ⟨xb,0,none⟩)
 |14=>.pointer (some ⟨q,0,none⟩)
 |15=>.pointer (some ⟨q,0,none⟩)
 |16=>.pointer (some ⟨q,6,none⟩)
 |17=>.pointer pa
 |18=>.agg #[.pointer pa,.string ⟨#[]⟩]
 |19=>.slice (some ⟨gh.1,0,none⟩) 4 4
 |20=>gh.2
 |21=>gh.2
 |_=>undef
theorem te8_a{g:Nat}{n:Nat}{cap:Nat}{s1:ByteArray}{s2:ByteArray}{fb:Nat}{xb:Nat}{q:Nat}{pa:Option Addr}{pb:Option Addr}{gh:Nat×Value}{gx}{j:Nat}(h19:j≠19):te8 g n cap s1 s2 fb xb q pa pb (gx,gh.2) j=te8 g n cap s1 s2 fb xb q pa pb gh j:=by
 unfold te8
 split<;>first|rfl|exact absurd rfl ‹_›
theorem te8_b{g:Nat}{n:Nat}{cap:Nat}{s1:ByteArray}{s2:ByteArray}{fb:Nat}{xb:Nat}{q:Nat}{pa:Option Addr}{pb:Option Addr}{gh:Nat×Value}{gx}{j:Nat}(h20:j≠20)(h21:j≠21):te8 g n cap s1 s2 fb xb q pa pb (gh.1,gx) j=te8 g n cap s1 s2 fb xb q pa pb gh j:=by
 unfold te8
 split<;>first|rfl|exact absurd rfl ‹_›
def CtB_In_0:Nat->List (Nat×Nat)
 |3=> [(40,3)]
 |4=> [(5,0)]
 |6=> [(43,6)]
 |7=> [(44,7)]
 |8=> [(45,8)]
 |9=> [(46,9)]
 |10=> [(6,0)]
 |12=> [(49,12)]
 |13=> [(5,0)]
 |15=> [(52,15)]
 |16=> [(53,16)]
 |17=> [(54,17)]
 |_=> []
theorem ctell_any(w0 w:World)(b:Nat)(c0:Co)(p0:Option Addr)(hc:jD w0 c0 (.pointer p0))(hF:zZ c0)(hT:Tab w0)(hb:zt w0.heap.size b [] w)(hB:Below w0.heap.size w0 w)(hz:4*jk c0+1<=100000000)(hl:(Kl c0).length<=1000000000000):
  Calls Tryz.prog 44 #[.pointer (some ⟨b,0,none⟩),.pointer p0] w fun e w'=>e=.returned (.tuple #[])/\zt w0.heap.size b (byN (Kl c0)) w'/\Below w0.heap.size w0 w':=by
 have H0:Hid (KS w0 b (w.alloc (.cells #[.pointer p0,.string ⟨#[]⟩] 157)) [] [⟨c0,p0,[]⟩] (.slice (some ⟨w.heap.size,0,none⟩) 1 1)):=j0 ⟨hb.up (j3 _ _),⟨rfl,.inr ⟨_,1,_,rfl,hB.size,j1 _ _,by simp,by decide,rfl,rfl⟩⟩,hB.trans ((j3 _ _).mono hB.size)⟩
 have HP0:Hid (∀x∈ [(⟨c0,p0,[]⟩:Pc)],PcAt w0 x):=j0 (fun x hx=>by
  have e:x=⟨c0,p0,[]⟩:=(by simpa using hx);rw [e]
  exact⟨hc,.inr rfl,hF⟩)
 have HL0:Hid (([]:List UInt8)++byN (yr [(⟨c0,p0,[]⟩:Pc)])=byN (Kl c0)):=j0 (by simp [yr,Pc.out]);have HLL:=j0 hl;have HT:=j0 hT;have hm0:vN [(⟨c0,p0,[]⟩:Pc)]<=4*jk c0+1:=by simp [vN]
 clear hc hF hT hb hB hl
 go_enter Tryz.func44,Tryz.ntmps44
 go_wp2_with fail
 go_loopg [4] (4*jk c0+1) (fun gk v wr=>∃(P:List Pc) (l:List UInt8),vN P<=gk/\gk<=100000000/\Hid (∀x∈P,PcAt w0 x)/\Hid (l++byN (yr P)=byN (Kl c0))/\Hid (KS w0 b wr l P v))
 case atStart=>exact⟨[⟨c0,p0,[]⟩],[],hm0,hz,HP0,HL0,H0⟩
 case round=>
  clear H0 HP0 HL0 hm0;obtain⟨P,l,hme,hgk,HP,HL,HM⟩:=hrel
  rcases List.eq_nil_or_concat P with rfl|⟨P,x,rfl⟩
  ·have HD:Hid (l=byN (Kl c0)):=j0 (by rw [<-HL.out];simp [yr,byN])
   obtain⟨bb,cc,rfl⟩:∃b c,u4=.slice b 0 c:=by rcases HM.out.row.2 with ⟨h,_⟩|⟨g,cap,cur,h,_⟩<;>exact⟨_,_,h⟩
   go_wp2_with fail
   go_end0
   exact⟨rfl,by rw [<-HD.out];exact HM.out.bd,HM.out.be⟩
  ·rw [List.concat_eq_append] at hme HP HL HM;obtain⟨g,cap,rfl,hcap,k0,k1,hgl,hpop⟩:=HM.out.pop;obtain⟨n,hn⟩:∃n,n=P.length:=⟨_,rfl⟩;rw [<-hn] at hcap k0 k1 hpop ⊢;have hlen:=measP_len (P++ [x]);have hln:n+1<=100000000:=by rw [List.length_append,List.length_singleton] at hlen;omega
   have HN:=j0 hn;have hX:=HP.out x (by simp);obtain⟨c,p,lx⟩:=x;have HX:=j0 hX
   have HLEN:Hid (l.length+(Kl c).length+lx.length<=1000000000000):=j0 (by
    have:=congrArg List.length HL.out;rw [Kf,List.length_append,byN_length,byN_length,List.length_append] at this;have h2:=HLL.out;simp only [Pc.out,List.length_append] at this
    omega)
   have HPOP:=j0 hpop;clear hX hpop hlen hn
   go_upto_region 4 with fail
   obtain⟨W1,hW1⟩:∃X,X=wr.alloc (.cells #[.pointer p,.string (baN lx)] 157):=⟨_,rfl⟩;change Code.wp _ _ _ _ (wr.alloc (.cells #[.pointer p,.string (baN lx)] 157));rw [<-hW1];have hb1:Below wr.heap.size wr W1:=by rw [hW1];exact j3 _ _
   have HM1:=j0 (HPOP.out.up hb1);have HXB:Hid (W1.heap[wr.heap.size]? =some (.cells #[.pointer p,.string (baN lx)] 157)):=j0 (by rw [hW1];exact j1 _ _);obtain⟨xb,hxb⟩:∃b,b=wr.heap.size:=⟨_,rfl⟩;rw [<-hxb] at HXB ⊢;clear hW1 hb1 hxb k0 k1 hcap hgl HM HPOP;have k0:=jC HXB.out 0;have k1:=jC HXB.out 1;have hxl:=jS HXB.out;simp only [Reg.la,Reg.lb,Reg.lc] at k0 k1
   cases c with
   |nil=>
    have hp:p=none:=by have:=HX.out.at_;cases this;rfl
    subst hp;have HW:=j0 (Uc lx HM1.out.bd (by have:=HLEN.out;omega));have HL2:Hid (l++byN lx++byN (yr P)=byN (Kl c0)):=j0 (by rw [<-HL.out,Kf,byN_append,List.append_assoc];rfl);have HPP:Hid (∀x∈P,PcAt w0 x):=j0 (fun x hx=>HP.out x (List.mem_append_left _ hx));have hm2:vN P+1<=gk:=by rw [yw] at hme;simp [vN,jk] at hme ⊢;omega
    go_wp2_with fail
    refine HW.out.mono ?_;rintro e W2 ⟨rfl,h1,h2,h3⟩;have HM2:=j0 (HM1.out.wrote h1 h2 h3);clear h1 h2 h3 HW k0 k1
    go_wp2_with fail
    go_roundg (vN P)
    case rel=>exact⟨P,_,jN _,by omega,HPP,HL2,HM2⟩
    case measure=>omega
   |node k s z ca cb=>
    obtain rfl:lx= []:=HX.out.one.resolve_left (by simp);obtain⟨q,va,vb,hp,hq,ha,hb⟩:=HX.out.at_.head;have hp:p=some ⟨q,0,none⟩:=by injection hp
    subst hp;obtain⟨pa,rfl⟩:=ha.ptr;obtain⟨pb,rfl⟩:=hb.ptr;have HF4:=j0 (four_at ha hb HX.out.fit);have HQ1:=j0 ((HM1.out.be.block q (jS hq)).trans hq);obtain⟨sa,hsa⟩:∃x,x=baN (xU k s z).1:=⟨_,rfl⟩;obtain⟨s1,hs1⟩:∃x,x=baN (xU k s z).2.1:=⟨_,rfl⟩;obtain⟨s2,hs2⟩:∃x,x=baN (xU k s z).2.2:=⟨_,rfl⟩
    have HFR:Hid (Calls Tryz.prog 41 #[.pointer (some ⟨q,0,none⟩)] W1 fun e w'=>e=.returned (.agg #[.string sa,.string s1,.string s2])/\Below W1.heap.size W1 w'):=j0 (by
     have:=QM k s z _ _ q W1 HQ1.out HX.out.fit.1 (HT.out.below HM1.out.be HT.out.lt);unfold frY at this;rw [<-hsa,<-hs1,<-hs2] at this
     exact this)
    have HSA:=j0 hsa;have HS1:=j0 hs1;have HS2:=j0 hs2;clear hq ha hb hsa hs1 hs2
    go_wp2_with fail
    refine HFR.out.mono ?_;rintro e W2 ⟨rfl,hb2⟩;have HM2:=j0 (HM1.out.up hb2);have HXB2:=j0 (j4 hb2 HXB.out);have HQ2:=j0 (j4 hb2 HQ1.out);clear hb2 k0 k1 hxl HFR HM1 HXB HQ1;obtain⟨W3,hW3⟩:∃X,X=W2.alloc (.cells #[.string sa,.string s1,.string s2] 84):=⟨_,rfl⟩;have b3:Below W2.heap.size W2 W3:=by rw [hW3];exact j3 _ _
    have HM3:=j0 (HM2.out.up b3)
    have HW:Hid (Calls Tryz.prog 87 #[.pointer (some ⟨b,0,none⟩),.string sa] W3 fun e w'=>e=.returned (.tuple #[.int .i64 ((xU k s z).1.length:Int),.nilIface])/\zt w0.heap.size b (l++byN (xU k s z).1) w'/\Below w0.heap.size W3 w'/\KeepT W3 w'):=j0 (by
     rw [HSA.out]
     exact Uc (xU k s z).1 HM3.out.bd (by have:=HLEN.out;simp only [Kl,List.length_append] at this;omega))
    obtain⟨fb,hfb⟩:∃b,b=W2.heap.size:=⟨_,rfl⟩;have HFB3:Hid (W3.heap[fb]? =some (.cells #[.string sa,.string s1,.string s2] 84)):=j0 (by rw [hW3,hfb];exact j1 _ _);have HXB3:=j0 (j4 b3 HXB2.out);have HQ3:=j0 (j4 b3 HQ2.out);have HW3:=j0 hW3;have HFE:=j0 hfb;clear b3 hW3 hfb
    go_wp2_with fail
    rw [<-HW3.out];refine HW.out.mono ?_;rintro e w5 ⟨rfl,h1,h2,h3⟩;have HM5:=j0 (HM3.out.wrote h1 h2 h3);have HFB:=j0 (h3.row _ _ _ _ HFB3.out (by decide) (by decide));have HXB:=j0 (h3.row _ _ _ _ HXB3.out (by decide) (by decide));have HQ:=j0 (h3.row _ _ _ _ HQ3.out (by decide) (by decide));clear h1 h2 h3 HW HM3 HFB3 HXB3 HQ3 HM2 HXB2 HQ2;rw [<-HFE.out];obtain⟨xs,hxs⟩:∃xs,xs=P.flatMap Pc.vals:=⟨_,rfl⟩;have HXSE:=j0 hxs;have HROW:Hid (w5.ownsRow w0.heap.size 157 2 (.slice (some ⟨g,0,none⟩) n cap) n xs):=j0 (by rw [hxs];have:=HM5.out.row;rwa [<-HN.out] at this);have HBS:=j0 HM5.out.be.size;have HLN:=j0 hln;clear hxs
    go_upto_region 8 with fail
    refine Reg.wp_region_H (te8 g n cap s1 s2 fb xb q pa pb) (Reg.AppS w5 19 20 (fun gg X=>X.heap[gg.1]? =some (.cells ([.pointer none,.string s2,.pointer pb,.string ⟨#[]⟩,.pointer none,.string s1,.pointer pa,.string ⟨#[]⟩]:List Value).toArray 157)) (fun gg X=>X.ownsRow w0.heap.size 157 2 gg.2 (n+4) (xs++ [.pointer none,.string s2,.pointer pb,.string ⟨#[]⟩,.pointer none,.string s1,.pointer pa,.string ⟨#[]⟩])/\∃Y,Below w5.heap.size w5 Y/\Y.grownBy X (.slice (some ⟨g,0,none⟩) n cap:Value).ownBlock)) (0,undef) [0,1,2,3,4,5,6,7,8,9,10,11,12,13,14,15,16,17,18,19,20,21] (by rfl) (by kernel_rfl) (by kernel_rfl) ?_ ?_ ?_
    ·exact Reg.AppS.start _ _
    ·refine⟨fun gh listed A X hI hcl hin hun hall=>⟨Reg.wn,?_⟩,?_⟩
     ·have e4:=hI.evn (d:=4) (j:=21) (by kernel_rfl) (Reg.un_of_reach hcl (n:=21) (i:=0) (by kernel_rfl) (by simpa using hun)) rfl;have HS:=hI.st;have hX:=HS.bel (Reg.un_of_reach hcl (n:=20) (i:=0) (by kernel_rfl) (by simpa using hun));have HX:=j0 hX;clear hX;clear hI;unfold Reg.Yields
      go_simp
      exact⟨gh,fun _ _=>rfl,rfl,HS.same (by decide) (by decide)⟩
     refine⟨fun gh listed A X hI hcl hin hun hall=>⟨Reg.wn,?_⟩,?_⟩
     ·have e6:=hI.wo 6 rfl;have HS:=hI.st;have hX:=HS.bel (Reg.un_of_reach hcl (n:=20) (by kernel_rfl) hun);have HX:=j0 hX;clear hX;clear hI;unfold Reg.Yields
      go_simp
      exact⟨gh,fun _ _=>rfl,rfl,HS.same (by decide) (by decide)⟩
     refine⟨fun gh listed A X hI hcl hin hun hall=>⟨Reg.wn,?_⟩,?_⟩
     ·have e39:A.tmps[39]? =some (.pointer (some ⟨fb,2,none⟩)):=hI.v hall 1 39;have HS:=hI.st;have hX:=HS.bel (Reg.un_of_reach hcl (n:=20) (by kernel_rfl) hun);have hb:=(hX.block _ (jS HFB.out)).trans HFB.out;have y2:=jC hb 2;have hyl:=jS hb;simp only [Reg.la,Reg.lb,Reg.lc] at y2;clear hb;have HX:=j0 hX;clear hX;clear hI;unfold Reg.Yields
      go_simp
      exact⟨gh,fun _ _=>rfl,rfl,HS.same (by decide) (by decide)⟩
     iterate 2
      refine⟨fun gh listed A X hI hcl hin hun hall=>⟨Reg.wn,?_⟩,?_⟩
      ·have E:=hI.tf hun hall CtB_In_0;simp only [Reg.TF,CtB_In_0,te8,Reg.la,Reg.lb,Reg.lc] at E;have HS:=hI.st;have hX:=HS.bel (Reg.un_of_reach hcl (n:=20) (by kernel_rfl) hun);have HX:=j0 hX;clear hX;clear hI;unfold Reg.Yields
       go_simp
       exact⟨gh,fun _ _=>rfl,rfl,HS.same (by decide) (by decide)⟩
     refine⟨fun gh listed A X hI hcl hin hun hall=>⟨Reg.wn,?_⟩,?_⟩
     ·have e42:A.tmps[42]? =some (.pointer (some ⟨xb,0,none⟩)):=hI.v hall 4 42;have HS:=hI.st;have hX:=HS.bel (Reg.un_of_reach hcl (n:=20) (by kernel_rfl) hun);have hb:=(hX.block _ (jS HXB.out)).trans HXB.out;have y0:=jC hb 0;have hyl:=jS hb;simp only [List.getElem?_toArray,List.getElem?_cons_zero] at y0;clear hb;have HX:=j0 hX;clear hX;clear hI;unfold Reg.Yields
      go_simp
      exact⟨gh,fun _ _=>rfl,rfl,HS.same (by decide) (by decide)⟩
     iterate 3
      refine⟨fun gh listed A X hI hcl hin hun hall=>⟨Reg.wn,?_⟩,?_⟩
      ·have E:=hI.tf hun hall CtB_In_0;simp only [Reg.TF,CtB_In_0,te8] at E;have HS:=hI.st;have hX:=HS.bel (Reg.un_of_reach hcl (n:=20) (by kernel_rfl) hun);have hb:=(hX.block _ (jS HQ.out)).trans HQ.out;have y7:=jC hb 7;have hyl:=jS hb;simp only [Reg.la,Reg.lb,Reg.lc] at y7;clear hb;have HX:=j0 hX;clear hX;clear hI;unfold Reg.Yields
       go_simp
       exact⟨gh,fun _ _=>rfl,rfl,HS.same (by decide) (by decide)⟩
     iterate 2
      refine⟨fun gh listed A X hI hcl hin hun hall=>⟨Reg.wn,?_⟩,?_⟩
      ·have E:=hI.tf hun hall CtB_In_0;simp only [Reg.TF,CtB_In_0,te8,Reg.la,Reg.lb,Reg.lc] at E;have HS:=hI.st;have hX:=HS.bel (Reg.un_of_reach hcl (n:=20) (by kernel_rfl) hun);have HX:=j0 hX;clear hX;clear hI;unfold Reg.Yields
       go_simp
       exact⟨gh,fun _ _=>rfl,rfl,HS.same (by decide) (by decide)⟩
     refine⟨fun gh listed A X hI hcl hin hun hall=>⟨Reg.wn,?_⟩,?_⟩
     ·have e48:A.tmps[48]? =some (.pointer (some ⟨fb,1,none⟩)):=hI.v hall 10 48;have HS:=hI.st;have hX:=HS.bel (Reg.un_of_reach hcl (n:=20) (by kernel_rfl) hun);have hb:=(hX.block _ (jS HFB.out)).trans HFB.out;have y1:=jC hb 1;have hyl:=jS hb;simp only [Reg.la,Reg.lb,Reg.lc] at y1;clear hb;have HX:=j0 hX;clear hX;clear hI;unfold Reg.Yields
      go_simp
      exact⟨gh,fun _ _=>rfl,rfl,HS.same (by decide) (by decide)⟩
     iterate 2
      refine⟨fun gh listed A X hI hcl hin hun hall=>⟨Reg.wn,?_⟩,?_⟩
      ·have E:=hI.tf hun hall CtB_In_0;simp only [Reg.TF,CtB_In_0,te8,Reg.la,Reg.lb,Reg.lc] at E;have HS:=hI.st;have hX:=HS.bel (Reg.un_of_reach hcl (n:=20) (by kernel_rfl) hun);have HX:=j0 hX;clear hX;clear hI;unfold Reg.Yields
       go_simp
       exact⟨gh,fun _ _=>rfl,rfl,HS.same (by decide) (by decide)⟩
     refine⟨fun gh listed A X hI hcl hin hun hall=>⟨Reg.wn,?_⟩,?_⟩
     ·have e51:A.tmps[51]? =some (.pointer (some ⟨xb,0,none⟩)):=hI.v hall 13 51;have HS:=hI.st;have hX:=HS.bel (Reg.un_of_reach hcl (n:=20) (by kernel_rfl) hun);have hb:=(hX.block _ (jS HXB.out)).trans HXB.out;have y0:=jC hb 0;have hyl:=jS hb;simp only [List.getElem?_toArray,List.getElem?_cons_zero] at y0;clear hb;have HX:=j0 hX;clear hX;clear hI;unfold Reg.Yields
      go_simp
      exact⟨gh,fun _ _=>rfl,rfl,HS.same (by decide) (by decide)⟩
     iterate 3
      refine⟨fun gh listed A X hI hcl hin hun hall=>⟨Reg.wn,?_⟩,?_⟩
      ·have E:=hI.tf hun hall CtB_In_0;simp only [Reg.TF,CtB_In_0,te8] at E;have HS:=hI.st;have hX:=HS.bel (Reg.un_of_reach hcl (n:=20) (by kernel_rfl) hun);have hb:=(hX.block _ (jS HQ.out)).trans HQ.out;have y6:=jC hb 6;have hyl:=jS hb;simp only [Reg.la,Reg.lb,Reg.lc] at y6;clear hb;have HX:=j0 hX;clear hX;clear hI;unfold Reg.Yields
       go_simp
       exact⟨gh,fun _ _=>rfl,rfl,HS.same (by decide) (by decide)⟩
     refine⟨fun gh listed A X hI hcl hin hun hall=>⟨Reg.wn,?_⟩,?_⟩
     ·have e55:A.tmps[55]? =some (.pointer pa):=hI.v hall 17 55;have HS:=hI.st;have hX:=HS.bel (Reg.un_of_reach hcl (n:=20) (by kernel_rfl) hun);have HX:=j0 hX;clear hX;clear hI;unfold Reg.Yields
      go_simp
      exact⟨gh,fun _ _=>rfl,rfl,HS.same (by decide) (by decide)⟩
     refine⟨fun gh listed A X hI hcl hin hun hall=>⟨Reg.wn,?_⟩,?_⟩
     ·have e41:A.tmps[41]? =some (.agg #[.pointer none,.string s2]):=hI.v hall 3 41;have e47:A.tmps[47]? =some (.agg #[.pointer pb,.string ⟨#[]⟩]):=hI.v hall 9 47;have e50:A.tmps[50]? =some (.agg #[.pointer none,.string s1]):=hI.v hall 12 50;have e56:A.tmps[56]? =some (.agg #[.pointer pa,.string ⟨#[]⟩]):=hI.v hall 18 56;have HS:=hI.st;have hX:=HS.bel (Reg.un_of_reach hcl (n:=20) (by kernel_rfl) hun);have HX:=j0 hX;clear hX;clear hI;unfold Reg.Yields
      go_simp
      exact⟨(X.heap.size,gh.2),fun j hj=>te8_a (j:=j) (fun e=>by rw [e] at hj;rw [hj] at hun;cases hun),rfl,HS.first (by decide) (Reg.un_of_reach hcl (n:=20) (by kernel_rfl) hun) (j3 _ _) (j1 _ _)⟩
     refine⟨fun gh listed A X hI hcl hin hun hall=>⟨Reg.wn,?_⟩,?_⟩
     ·have e38:A.tmps[38]? =some (.slice (some ⟨g,0,none⟩) n cap):=hI.v hall 0 38;have e57:A.tmps[57]? =some (.slice (some ⟨gh.1,0,none⟩) 4 4):=hI.v hall 19 57;have HS:=hI.st;have hX:=HS.bel (by simpa using hun);have hP:=HS.one (hall ⟨19,.data⟩ (by simp) rfl) (by simpa using hun);have HX:=j0 hX;clear hI hX;obtain⟨i0,hif,hy0,hy1,hy2⟩:=info_parts Tryz.infoPc;have hrow:=vX HROW.out HX.out;have hbs:=HBS.out;have hln:=HLN.out;have hsz:=HX.out.size;refine Reg.yields_append_own (.tmp 38) (.tmp 57) 158 rfl w0.heap.size 157 i0 (.agg #[.pointer none,.string ⟨#[]⟩]) 2 24 Tryz.underlying158 hif hy0 hy1 hy2 rfl (by decide) (.slice (some ⟨g,0,none⟩) n cap) n xs (by simp [Act.eval,e38]) hrow ⟨gh.1,0,none⟩ 4 4 [.pointer none,.string s2,.pointer pb,.string ⟨#[]⟩,.pointer none,.string s1,.pointer pa,.string ⟨#[]⟩] (by simp [Act.eval,e57]) rfl (cells_at hP) (by intro u hu;simp only [List.mem_cons,List.not_mem_nil,or_false] at hu;rcases hu with rfl|rfl|rfl|rfl|rfl|rfl|rfl|rfl<;>rfl) (by unfold maxLen;omega) (by omega) (by omega) ?_;intro v' w' ho hg _;exact⟨(gh.1,v'),fun j hj=>te8_b (j:=j) (fun e=>by rw [e] at hj;rw [hj] at hun;cases hun) (fun e=>by rw [e] at hj;rw [Reg.closed_reach hcl 60 21 20 (by kernel_rfl) hj] at hun;cases hun),rfl,HS.last (by simpa using hin) ⟨ho,X,HX.out,hg⟩⟩
     refine⟨fun gh listed A X hI hcl hin hun hall=>⟨Reg.wn,?_⟩,?_⟩
     ·have e58:A.tmps[58]? =some (gh.2):=hI.v hall 20 58;have HS:=hI.st;clear hI;unfold Reg.Yields
      go_simp
      exact⟨gh,fun _ _=>rfl,rfl,HS.same (by decide) (by decide)⟩
     trivial
    ·intro gh X hS;have HR:=j0 (hS.done (by rfl));clear hS;simp [Reg.finalTmps,Reg.dstAt,Reg.valOf,te8];have HXS:=j0 (show xs=P.flatMap Pc.vals from HXSE.out);obtain⟨ho,Y,hY,hg⟩:=HR.out;have hT5:=HM5.out.up hY
     have hTX:KS w0 b X (l++byN (xU k s z).1) (P++zo k s z ca cb pa pb) gh.2:=by
      refine⟨hT5.bd.kept hT5.row hg (by decide) (by decide),?_,hT5.be.grown hg hT5.be.size (fun k e=>(kl hT5.row e).1)⟩;rw [HXS.out,HN.out] at ho;rw [List.flatMap_append,List.length_append];rw [HS1.out,HS2.out] at ho;exact ho
     have HTX:=j0 hTX
     have HO8:Hid (l++byN (xU k s z).1++byN (yr (P++zo k s z ca cb pa pb))=byN (Kl c0)):=j0 (by
      rw [<-HL.out,four_out k s z ca cb (some ⟨q,0,none⟩) pa pb P,byN_append,List.append_assoc])
     have hm8:=four_meas k s z ca cb (some ⟨q,0,none⟩) pa pb P
     have HA8:Hid (∀x∈P++zo k s z ca cb pa pb,PcAt w0 x):=j0 (fun x hx=>by
      rcases List.mem_append.1 hx with hx|hx
      ·exact HP.out x (List.mem_append_left _ hx)
      ·exact HF4.out x hx)
     clear ho hg hY hT5 hTX HR
     go_wp2_with fail
     go_roundg (vN (P++zo k s z ca cb pa pb))
     case rel=>exact⟨P++zo k s z ca cb pa pb,_,jN _,by omega,HA8,HO8,HTX⟩
     case measure=>omega
end
end
end Go.Proofs.YtnmalggmbeipaaaGreatDoor
namespace Go.Proofs.YtnmalggmbeipaaaGreatDoor
section
section
section
open Go Go.RowKit
attribute [local go_sem ↓] Go.wp_at_zero Go.wp_at_succ
attribute [local go_sem] qX
theorem ctext_any(c:Co)(p:Option Addr)(w:World)(hc:jD w c (.pointer p))(hF:zZ c)(hT:Tab w)(hz:4*jk c+1<=100000000)(hl:(Kl c).length<=2147483647):
  Calls Tryz.prog 14 #[.pointer p] w fun e w'=>e=.returned (.string (baN (Kl c)))/\Below w.heap.size w w':=by
 have HLN:=j0 (clen_any c _ w hc hF hT (by omega) (by unfold top;omega));obtain⟨n,hn⟩:∃n,n=(Kl c).length:=⟨_,rfl⟩;rw [<-hn] at HLN;have HN:=j0 hn
 rcases hc.nil_iff with ⟨rfl,_⟩|⟨hne,q,hpq⟩
 ·have h0:n=0:=hn;subst h0;clear hc hF hT hz hl hn
  go_enter Tryz.func14,Tryz.ntmps14
  go_wp2_with fail
  refine HLN.out.mono ?_;rintro e w1 ⟨rfl,hb1⟩;have HB1:=j0 hb1;clear hb1
  go_wp2_with fail
  go_ret
  exact⟨rfl,HB1.out⟩
 ·have hpos:0<n:=by
   cases c with
   |nil=>exact absurd rfl hne
   |node k s z a b=>
    have:=frN_pos k s z;rw [hn,Kl];unfold Ze at this;simp only [List.length_append];omega
  have hle:n<=2147483647:=by omega
  have HC:=j0 hc;have HF:=j0 hF;have HT:=j0 hT;have HZ:=j0 hz;have HL:=j0 hl;have e0:((n:Int)==0)=false:=by simp;omega
  clear hc hF hT hz hl hn hne hpq
  go_enter Tryz.func14,Tryz.ntmps14
  go_wp2_with fail
  refine HLN.out.mono ?_;rintro e w1 ⟨rfl,hb1⟩;have HB1:=j0 hb1;obtain⟨w2,hw2⟩:∃X,X=w1.alloc (.cells #[.pointer none,.slice none 0 0] 90):=⟨_,rfl⟩;obtain⟨b,hb⟩:∃b,b=w1.heap.size:=⟨_,rfl⟩;have b2:Below w1.heap.size w1 w2:=by rw [hw2];exact j3 _ _
  have GR:=j0 (sb_Grow w1.heap.size b n w2 (by omega) (by rw [hw2,hb];exact j1 _ _) b2.size (by omega));have HB2:=j0 b2;have HW2:=j0 hw2;have HBE:=j0 hb;clear hb1 b2 hw2 hb HLN
  go_wp2_with fail
  rw [<-HW2.out,<-HBE.out];refine GR.out.mono ?_;rintro e w3 ⟨rfl,h3,hb3⟩;have TL:=j0 (ctell_any w1 w3 b c p (HC.out.up HB1.out) HF.out (HT.out.below HB1.out HT.out.lt) (.inr h3) (HB2.out.trans hb3) HZ.out (by have:=HL.out;omega));have HB3:=j0 (HB2.out.trans hb3);clear h3 hb3 GR
  go_wp2_with fail
  refine TL.out.mono ?_;rintro e w4 ⟨rfl,h4,hb4⟩;have ST:=j0 (sb_string w1.heap.size b _ w4 h4 hb4.size);have HB4:=j0 hb4;clear h4 hb4 TL
  go_wp2_with fail
  refine ST.out.mono ?_;rintro e w5 ⟨rfl,hb5⟩;have HB5:=j0 (HB1.out.trans ((HB4.out.trans hb5).mono HB1.out.size));clear hb5 ST
  go_wp2_with fail
  go_ret
  exact⟨rfl,HB5.out⟩
end
end
section
section
open Go Go.RowKit
attribute [local go_sem ↓] Go.wp_at_zero Go.wp_at_succ
attribute [local go_sem] qX
end
end
section
section
open Go Go.RowKit
attribute [local go_sem ↓] Go.wp_at_zero Go.wp_at_succ
attribute [local go_sem] qX
def coExS:ByteArray:=⟨#[97,123,50,44,51,125]⟩
def zV:Tr:=.mk 6 j7 2 3 false 0 6 [.mk 1 (jh 97) 0 0 false 0 1 []]
theorem coEx_is:qd coExS=(0,0,some zV):=by kernel_rfl
theorem coEx_rt:zu zV:=.rep _ _ _ _ _ _ (by decide) (by first|exact .inl rfl|decide|trivial|simp [IsSingle,xr]) (.set _ _ _ (kz 97))
theorem coEx_text:baN (Kl (UC 0 (jo zV)))=⟨#[40,97,40,97,40,97,124,40,41,41,41,41]⟩:=by kernel_rfl
theorem Km:jk (UC 0 (jo zV))=7:=by kernel_rfl
theorem coEx_len:(Kl (UC 0 (jo zV))).length=12:=by kernel_rfl
theorem Zq:kL [qt zV,xZ 0]<=4096:=by decide+kernel
theorem coEx_core:UC 0 (jo zV)=.node 2 j7 false (.node 1 (jh 97) false .nil .nil) (.node 2 j7 false (.node 1 (jh 97) false .nil .nil) (.node 3 j7 false (.node 1 (jh 97) false .nil .nil) yD)):=by kernel_rfl
theorem coEx_fit:zZ (UC 0 (jo zV)):=by
 have h:=kz 97;have e:=qf;rw [coEx_core];exact⟨e,⟨h,trivial,trivial⟩,e,⟨h,trivial,trivial⟩,e,⟨h,trivial,trivial⟩,e,trivial,trivial⟩
theorem yG(w:World)(hT:Tab w):Calls Tryz.prog 6 #[] w fun e w'=>e=.returned (.bool true)/\Below w.heap.size w w':=by
 have PA:=j0 (cparse_ok coExS 0 (by decide) zV (by decide) coEx_is coEx_rt (by decide+kernel) (by decide+kernel) w hT);have HT:=j0 hT;clear hT
 go_enter Tryz.func6,Tryz.ntmps6
 go_wp2_with fail
 refine PA.out.mono ?_;rintro x w1 ⟨v,e,rfl,hbc,hb1⟩
 obtain⟨rfl,hc⟩:e=0/\jD w1 (UC 0 (jo zV)) v:=by
  rcases hbc with ⟨h,_⟩|⟨_,h,h2⟩
  ·have:=Zq;omega
  ·exact⟨h,h2⟩
 obtain⟨p,rfl⟩:=hc.ptr;have TX:=ctext_any _ p w1 hc coEx_fit (HT.out.below hb1 HT.out.lt) (by rw [Km];omega) (by rw [coEx_len];omega);rw [coEx_text] at TX;have HTX:=j0 TX;have HC:=j0 hc;have HB1:=j0 hb1;clear TX hc hb1 hbc PA
 go_wp2_with fail
 refine HTX.out.mono ?_;rintro x w2 ⟨rfl,hb2⟩;have SZ:=Ux _ (.pointer p) w2 (HC.out.up hb2) (by rw [Km];omega);rw [Km] at SZ;have HSZ:=j0 SZ;have HB2:=j0 (HB1.out.trans (hb2.mono HB1.out.size));clear SZ hb2 HTX
 go_wp2_with fail
 refine HSZ.out.mono ?_;rintro x w3 ⟨rfl,hb3⟩;have HB3:=j0 (HB2.out.trans (hb3.mono HB2.out.size));clear hb3 HSZ
 go_wp2_with fail
 go_ret
 exact⟨rfl,HB3.out⟩
end
end
section
section
open Go Go.RowKit
attribute [local go_sem ↓] Go.wp_at_zero Go.wp_at_succ
attribute [local go_sem] qX
theorem zW(m:Int)(w:World):Calls Tryz.prog 19 #[.pointer none,.int .i64 m] w fun e w'=>e=.returned (.int .i64 0)/\Below w.heap.size w w':=by
 by_cases h:0<=m/\m<4
 ·exact VB m h w
 ·exact yJ m h none w
end
end
end
end Go.Proofs.YtnmalggmbeipaaaGreatDoor
