/- A part of the proof. -/
import Derived.RangeFuncNested
import Derived.RangeFuncBound
import Derived.RangeFuncCalls
import Derived.RangeFuncLeaves
import Derived.Shelf.Abstract
import Derived.Shelf.RegionOpen
import Derived.WalkKit
import Derived.OwnWalkIn
import Derived.TacticsInMore
import Derived.LoopNIn
import Derived.LoopIn
import Derived.Lib.Hide
import Derived.Test.YtnmalggmbeipaaaGreatDoorEl
set_option maxRecDepth 100000
set_option maxHeartbeats 16000000
namespace Go.Proofs.YtnmalggmbeipaaaGreatDoor
section
open Go Go.RowKit Go.Shelf
attribute [local go_sem] Oper.semAt_some
def xV(len k:Nat):List Nat:=(List.range k).map fun j=>len-1-j
theorem Zk(len k:Nat):xV len (k+1)=xV len k++ [len-1-k]:=by simp [xV,List.range_succ]
theorem Jz(len k:Nat):(xV len k).length=k:=by simp [xV]
theorem cback1_in{α:Type}(val:α->Nat)(encs:α->Array Value)(F:Fence)(n:Nat)(h7:F.fn 199)(hro:F.round=none)(hn:1<=n)(l Bs b len cap:Nat)(qs:Nat->Nat)(hreach:len<=1099511627776)
  (hs:∀j,j<len->∃x:α,val x=j/\encs x= #[.int .i64 (j:Int),.pointer (some ⟨qs j,0,none⟩)]) (J Jx:List α->World->Prop)
  (hY:∀pre x W,J pre W->pre.length<len->YieldAt F (n-1) Tryz.prog l (encs x) W fun e W'=>
   (e=.returned (.bool true)/\J (pre++ [x]) W'/\zw Bs b W W')\/(e=.returned (.bool false)/\Jx (pre++ [x]) W'))
  (W:World) (hBs:W.cell? ⟨Bs,0,none⟩=some (.slice (some ⟨b,0,none⟩) len cap)) (hc:∀j,j<len->W.cell? ⟨b,j,none⟩=some (.pointer (some ⟨qs j,0,none⟩))) (h0:J [] W):
  CallsIn F n Tryz.prog 199 #[.func (.yield l) #[] #[],.pointer (some ⟨Bs,0,none⟩)] W fun e W'=>(∃v,e=.returned v)/\
   ((∃ys,ys.map val=xV len len/\J ys W')\/(∃pre,(∃k,k<=len/\pre.map val=xV len k)/\Jx pre W')):=by
 refine callsIn_of_wp Tryz.func199 rfl h7 ?_ hro;simp only [Tryz.ntmps199,List.size_toArray,List.length_cons,List.length_nil,Nat.reduceAdd,Nat.reduceSub,Array.replicate_succ,Array.replicate_zero,List.push_toArray,List.append_toArray,List.nil_append,List.cons_append]
 gi_wp2
 gi_loopw [3] (fun i wr=>∃(m:Nat) (pre:List α),m<=len/\i=.int .i64 ((m:Int)-1)/\Hid (pre.map val=xV len (len-m))/\J pre wr/\zw Bs b W wr)
  (fun i _=>(intOf i+1).toNat)
 case atStart=>exact⟨len,[],jN _,rfl,Lib.hid (by rw [Nat.sub_self];rfl),h0,zw.refl _ _ _⟩
 case round=>
  obtain⟨m,pre,hm,rfl,HP,hJs,hnx⟩:=hrel;have hBsx:wr.cell? ⟨Bs,0,none⟩=some (.slice (some ⟨b,0,none⟩) len cap):=(World.cell?_of_block (w:=W) (a:=⟨Bs,0,none⟩) hnx.1).trans hBs
  cases m with
  |zero=>
   rw [show(((0:Nat):Int)-1)= -1 from rfl]
   gi_wp2
   go_end0
   exact⟨⟨_,rfl⟩,.inl ⟨_,HP.out,hJs⟩⟩
  |succ m=>
   rw [show(((m+1:Nat):Int)-1)=(m:Int) by omega];have hcx:wr.cell? ⟨b,m,none⟩=some (.pointer (some ⟨qs m,0,none⟩)):=(World.cell?_of_block (w:=W) (a:=⟨b,m,none⟩) hnx.2).trans (hc m (by omega));obtain⟨x,hx,hex⟩:=hs m (by omega);have hpl:pre.length=len-(m+1):=by have:=congrArg List.length HP.out;rwa [List.length_map,Jz] at this
   obtain⟨fn,tmps,assign,body,hy,hR⟩:=hY pre x wr hJs (by omega);rw [hex] at hy
   have e1:Hid ((pre++ [x]).map val=xV len (len-m)):=Lib.hid (by
    rw [List.map_append,HP.out,show len-m=(len-(m+1))+1 by omega,Zk];simp only [List.map_cons,List.map_nil,hx]
    rw [show len-1-(len-(m+1))=m by omega])
   have HNX:=Lib.hid hnx;clear hnx hpl hx hex
   gi_wp2
   refine hR.mono ?_;rintro e W3 (⟨rfl,hJ3,hk3⟩|⟨rfl,hJx3⟩)
   ·have HK3:=Lib.hid hk3;clear hk3
    gi_wp2
    go_roundw
    case rel=>exact⟨m,_,by omega,by go_num,e1,hJ3,HNX.out.trans HK3.out⟩
    case measure=>simp [intOf];try omega
   ·gi_wp2
    refine bodyPost_ret (results_none rfl _ _ _) rfl ?_;exact⟨⟨_,rfl⟩,.inr ⟨_,⟨len-m,by omega,e1.out⟩,hJx3⟩⟩
theorem U6{α:Type}(F:Fence)(n:Nat)(h7:F.fn 199)(hro:F.round=none)(l Bs:Nat)(p:Option Addr)(cap:Nat)(J:List α->World->Prop)(W:World)(hBs:W.cell? ⟨Bs,0,none⟩=some (.slice p 0 cap))(h0:J [] W):
  CallsIn F n Tryz.prog 199 #[.func (.yield l) #[] #[],.pointer (some ⟨Bs,0,none⟩)] W fun e W'=>(∃v,e=.returned v)/\J [] W':=by
 refine callsIn_of_wp Tryz.func199 rfl h7 ?_ hro;simp only [Tryz.ntmps199,List.size_toArray,List.length_cons,List.length_nil,Nat.reduceAdd,Nat.reduceSub,Array.replicate_succ,Array.replicate_zero,List.push_toArray,List.append_toArray,List.nil_append,List.cons_append]
 gi_wp2
 gi_loopw [3] (fun i wr=>i=.int .i64 (-1)/\J [] wr) (fun _ _=>0)
 case atStart=>exact⟨rfl,h0⟩
 case round=>
  obtain⟨rfl,hJs⟩:=hrel
  gi_wp2
  go_end0
  exact⟨⟨_,rfl⟩,hJs⟩
theorem cback_in(F:Fence)(n:Nat)(h5:F.fn 153)(hro:F.round=none)(a:Option Addr)(len cap:Nat)(w:World):
  CallsIn F n Tryz.prog 153 #[.slice a len cap] w fun e w'=>e=.returned (.func (.func 199) #[] #[.pointer (some ⟨w.heap.size,0,none⟩)])/\w'=w.alloc (.cells #[.slice a len cap] 152):=by
 refine callsIn_of_wp Tryz.func153 rfl h5 ?_ hro;simp only [Tryz.ntmps153,List.size_toArray,List.length_cons,List.length_nil,Nat.reduceAdd,Nat.reduceSub,Array.replicate_succ,Array.replicate_zero,List.push_toArray,List.append_toArray,List.nil_append,List.cons_append]
 gi_wp2
 go_ret
 exact⟨rfl,rfl⟩
theorem XX{α:Type}(val:α->Nat)(encs:α->Array Value)(F:Fence)(n:Nat)(h7:F.fn 199)(hro:F.round=none)(hn:1<=n)(Bs b:Nat)(p:Option Addr)(cap len:Nat)(qs:Nat->Nat)(hreach:len<=1099511627776)
  (hs:∀j,j<len->∃x:α,val x=j/\encs x= #[.int .i64 (j:Int),.pointer (some ⟨qs j,0,none⟩)]) (w:World) (hBs:Bs<w.heap.size) (hb:b<w.heap.size)
  (hc:w.cell? ⟨Bs,0,none⟩=some (.slice p len cap)) (hI:∀j,j<len->p=some ⟨b,0,none⟩/\w.cell? ⟨b,j,none⟩=some (.pointer (some ⟨qs j,0,none⟩))):
  SeqStopsK F n Tryz.prog 199 #[.pointer (some ⟨Bs,0,none⟩)] encs (zw Bs b) (fun ys=>ys.map val=xV len len) (fun pre=>∃k,k<=len/\pre.map val=xV len k) len w:=fun l J Jx W hW _ _ hY h0=>by
 have hc':=(hW.cell (p:=⟨Bs,0,none⟩) hBs).trans hc
 rcases Nat.eq_zero_or_pos len with h|h
 ·subst h;exact(U6 F n h7 hro l Bs p cap J W hc' h0).mono fun e W' ⟨he,hj⟩=>⟨he,.inl ⟨_,rfl,hj⟩⟩
 ·obtain rfl:=(hI 0 h).1;exact cback1_in val encs F n h7 hro hn l Bs b len cap qs hreach hs J Jx hY W hc' (fun j hj=>(hW.cell (p:=⟨b,j,none⟩) hb).trans (hI j hj).2) h0
end
end Go.Proofs.YtnmalggmbeipaaaGreatDoor
