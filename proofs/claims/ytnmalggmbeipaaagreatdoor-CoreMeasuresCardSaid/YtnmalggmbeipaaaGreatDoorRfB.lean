/- A part of the proof. -/
import Derived.Test.YtnmalggmbeipaaaGreatDoorTa
import Derived.Test.YtnmalggmbeipaaaGreatDoorRa
set_option maxRecDepth 100000
set_option maxHeartbeats 16000000
namespace Go.Proofs.YtnmalggmbeipaaaGreatDoor
section
open Go Go.RowKit
attribute [local go_sem ↓] Go.wp_at_zero Go.wp_at_succ
attribute [local go_sem] qX
def Za(S:ByteArray)(c:Nat):Nat->Bool
 |0=>false
 |k+1=>Za S c k||decide (jl S k=c)
theorem inB_yes{S:ByteArray}{c:Nat}:∀{n k:Nat},k<n->jl S k=c->Za S c n=true:=by
 intro n
 induction n with
 |zero=>intro k h;omega
 |succ n ih=>
  intro k h hc;unfold Za
  by_cases e:k=n
  ·subst e;simp [hc]
  ·rw [ih (by omega) hc];rfl
theorem kJ(S:ByteArray)(c:Nat)(hS:S.size<=1099511627776)(w:World):
  Calls Tryz.prog 141 #[.string S,.int .u8 (c:Int)] w fun e w'=>e=.returned (.bool (Za S c S.size))/\w'=w:=by
 go_enter Tryz.func141,Tryz.ntmps141
 go_wp2_with fail
 go_loopw [5] (fun i wr=>∃k:Nat,k<=S.size/\i=.int .i64 k/\wr=w/\Hid (Za S c k=false)) (fun i _=>S.size-(intOf i).toNat)
 case atStart=>exact⟨0,by omega,rfl,rfl,hid rfl⟩
 case round=>
  obtain⟨k,hk,rfl,rfl,HN⟩:=hrel
  by_cases hlk:k<S.size
  ·by_cases hc:jl S k=c
   ·have HF:=hid (inB_yes hlk hc);have hc2:(((S[k]'hlk).toNat:Int)==(c:Int))=true:=by rw [<-hc,jy hlk];simp
    clear hc
    go_wp2_with fail
    go_ret
    exact⟨by rw [HF.out];rfl,rfl⟩
   ·have HK:Hid (Za S c (k+1)=false):=hid (by unfold Za;rw [HN.out,jF hc];rfl);have hc2:(((S[k]'hlk).toNat:Int)==(c:Int))=false:=by rw [jy hlk] at hc;simp;omega
    clear hc
    go_wp2_with fail
    go_roundw
    case rel=>exact⟨k+1,by omega,by go_num,by first|rfl|trivial,HK⟩
    case measure=>simp [intOf];omega
  ·obtain rfl:k=S.size:=by omega
   go_wp2_with fail
   go_ret
   exact⟨by rw [HN.out];rfl,rfl⟩
def xT(b:Nat):Int:=if 48<=b/\b<=57 then(b:Int)-48 else if 97<=b/\b<=102 then(b:Int)-87 else if 65<=b/\b<=70 then(b:Int)-55 else-1
theorem Qp(b:Nat)(hb:b<256)(w:World):
  Calls Tryz.prog 189 #[.int .u8 (b:Int)] w fun e w'=>e=.returned (.int .i64 (xT b))/\w'=w:=by
 by_cases d:48<=b/\b<=57
 ·obtain⟨k,hk⟩:∃k,k=b-48:=⟨_,rfl⟩;have e:xT b=(k:Int):=by unfold xT;rw [if_pos d];omega
  rw [e];have d1:decide ((48:Int)<=(b:Int))=true:=jT (by omega);have d2:decide ((b:Int)<=57)=true:=jT (by omega);have e1:IntKind.u8.wrap ((b:Int)-48)=(k:Int):=by simp [IntKind.wrap,IntKind.signed,IntKind.bits];omega
  have e2:IntKind.i64.wrap (k:Int)=(k:Int):=by simp [IntKind.wrap,IntKind.signed,IntKind.bits];omega
  clear e hk d
  go_enter Tryz.func189,Tryz.ntmps189
  go_wp2
  go_ret
  exact⟨rfl,rfl⟩
 ·by_cases f:97<=b/\b<=102
  ·obtain⟨k,hk⟩:∃k,k=b-97:=⟨_,rfl⟩;obtain⟨m,hm⟩:∃m,m=k+10:=⟨_,rfl⟩;have e:xT b=(m:Int):=by unfold xT;rw [if_neg d,if_pos f];omega
   rw [e];have g0:decide ((48:Int)<=(b:Int))=true:=jT (by omega);have g00:decide ((b:Int)<=57)=false:=jF (by omega);have g1:decide ((97:Int)<=(b:Int))=true:=jT (by omega);have g2:decide ((b:Int)<=102)=true:=jT (by omega);have e1:IntKind.u8.wrap ((b:Int)-97)=(k:Int):=by simp [IntKind.wrap,IntKind.signed,IntKind.bits];omega
   have e2:IntKind.i64.wrap (k:Int)=(k:Int):=by simp [IntKind.wrap,IntKind.signed,IntKind.bits];omega
   have e3:IntKind.i64.wrap ((k:Int)+10)=(m:Int):=by simp [IntKind.wrap,IntKind.signed,IntKind.bits];omega
   clear e hk hm d f
   go_enter Tryz.func189,Tryz.ntmps189
   go_wp2
   go_ret
   exact⟨rfl,rfl⟩
  ·by_cases g:65<=b/\b<=70
   ·obtain⟨k,hk⟩:∃k,k=b-65:=⟨_,rfl⟩;obtain⟨m,hm⟩:∃m,m=k+10:=⟨_,rfl⟩;have e:xT b=(m:Int):=by unfold xT;rw [if_neg d,if_neg f,if_pos g];omega
    rw [e];have g0:decide ((48:Int)<=(b:Int))=true:=jT (by omega);have g00:decide ((b:Int)<=57)=false:=jF (by omega);have g1:decide ((97:Int)<=(b:Int))=false:=jF (by omega);have g2:decide ((65:Int)<=(b:Int))=true:=jT (by omega);have g3:decide ((b:Int)<=70)=true:=jT (by omega);have e1:IntKind.u8.wrap ((b:Int)-65)=(k:Int):=by simp [IntKind.wrap,IntKind.signed,IntKind.bits];omega
    have e2:IntKind.i64.wrap (k:Int)=(k:Int):=by simp [IntKind.wrap,IntKind.signed,IntKind.bits];omega
    have e3:IntKind.i64.wrap ((k:Int)+10)=(m:Int):=by simp [IntKind.wrap,IntKind.signed,IntKind.bits];omega
    clear e hk hm d f g
    go_enter Tryz.func189,Tryz.ntmps189
    go_wp2
    go_ret
    exact⟨rfl,rfl⟩
   ·have e:xT b= -1:=by unfold xT;rw [if_neg d,if_neg f,if_neg g]
    rw [e]
    have K:(decide ((48:Int)<=(b:Int))=false/\decide ((97:Int)<=(b:Int))=false/\decide ((65:Int)<=(b:Int))=false)\/(decide ((48:Int)<=(b:Int))=true/\decide ((b:Int)<=57)=false/\decide ((97:Int)<=(b:Int))=false/\(decide ((65:Int)<=(b:Int))=false))\/
     (decide ((48:Int)<=(b:Int))=true/\decide ((b:Int)<=57)=false/\decide ((97:Int)<=(b:Int))=false/\decide ((65:Int)<=(b:Int))=true/\decide ((b:Int)<=70)=false)\/
     (decide ((48:Int)<=(b:Int))=true/\decide ((b:Int)<=57)=false/\decide ((97:Int)<=(b:Int))=true/\decide ((b:Int)<=102)=false/\decide ((65:Int)<=(b:Int))=true/\decide ((b:Int)<=70)=false):=by
     simp only [decide_eq_true_eq,decide_eq_false_iff_not];omega
    clear e d f g
    rcases K with ⟨k1,k2,k3⟩|⟨k1,k2,k3,k4⟩|⟨k1,k2,k3,k4,k5⟩|⟨k1,k2,k3,k4,k5,k6⟩
    all_goals
     go_enter Tryz.func189,Tryz.ntmps189
     go_wp2
     go_ret
     exact⟨rfl,rfl⟩
def Uu(L:List (Nat×Nat))(n:Nat):Bool:=L.any fun p=>decide (p.1<=n) && decide (n<=p.2)
def jE(w:World)(gl:Nat)(L:List (Nat×Nat)):Prop:=
 gl<w.heap.size/\∀i p,L[i]? =some p->w.cell? ⟨gl,i*2,none⟩=some (.int .i64 (p.1:Int))/\w.cell? ⟨gl,i*2+1,none⟩=some (.int .i64 (p.2:Int))
theorem jE.below{B:Nat}{w w':World}{gl:Nat}{L:List (Nat×Nat)}(h:jE w gl L)(hb:Below B w w')(hB:gl<B):jE w' gl L:=
 ⟨Nat.lt_of_lt_of_le h.1 hb.size,fun i p hi=>⟨(hb.cell (p:=⟨gl,i*2,none⟩) hB).trans (h.2 i p hi).1,(hb.cell (p:=⟨gl,i*2+1,none⟩) hB).trans (h.2 i p hi).2⟩⟩
def SmRel(w:World)(f:Nat->Bool)(k:Nat)(wr:World):Prop:=
 wr.heap[w.heap.size+1]? =some (.cells (bl fun j=>decide (j<k) && f j) 4)/\wr.heap[w.heap.size]? =some (.cells #[.int .u64 0,.int .u64 0,.int .u64 0,.int .u64 0] 29)/\Below w.heap.size w wr
theorem SmRel.next{w:World}{f:Nat->Bool}{k:Nat}{wr:World}(h:SmRel w f k wr)(hk:k<256):
  (wr.cell? ⟨w.heap.size+1,k,none⟩=some (.bool (decide (k<k) && f k))/\wr.frozen? ⟨w.heap.size+1,k,none⟩=false/\w.heap.size+1<wr.heap.size)/\SmRel w f (k+1) (wr.setCell ⟨w.heap.size+1,k,none⟩ (.bool (f k))):=by
 obtain⟨h1,h2,h3⟩:=h;refine⟨⟨(jC h1 k).trans (UF _ k hk),jU h1 k,jS h1⟩,?_,?_,h3.setCell (by simp) _⟩
 ·rw [Joins.block_setCell h1,bl_set];congr 2;refine zs fun i hi=> ?_
  by_cases hik:i=k
  ·subst hik;simp
  ·have:(decide (i<k+1))=decide (i<k):=by
    by_cases h:i<k
    ·simp [h];omega
    ·simp [h];omega
   simp [hik,this]
 ·rw [Below.heap_setCell _ _ _ _ (by simp)];exact h2
theorem inL_take{L:List (Nat×Nat)}{n i:Nat}{p:Nat×Nat}(h:L[i]? =some p):Uu (L.take (i+1)) n=(Uu (L.take i) n||(decide (p.1<=n) && decide (n<=p.2))):=by
 unfold Uu;rw [List.take_add_one,h,List.any_append];simp
theorem jY(gl n cap:Nat)(L:List (Nat×Nat))(nt:Bool)(t:W4)(ht:t.fit)(hm:∀m,m<256->t.mem m=(Uu L m !=nt))(hn:L.length=n)(hn2:n<=1000)(w:World)(h:jE w gl L):
  Calls Tryz.prog 140 #[.slice (some ⟨gl,0,none⟩) n cap,.bool nt] w fun e w'=>e=.returned (.agg #[.int .u64 t.a,.int .u64 t.b,.int .u64 t.c,.int .u64 t.d])/\Below w.heap.size w w':=by
 have hmk:∀w,(Instr.makeSlice 69 (.int .i64 256) (.int .i64 256)).run Tryz.prog w=.ok (.slice (some ⟨w.heap.size,0,none⟩) 256 256) (w.alloc (.cells (bl fun _=>false) 4)):=fun _=>by kernel_rfl
 have HP:=hid h;have HM:=hid hm;have HFT:=hid ht;have HL:=hid hn;obtain⟨f,hf⟩:∃f:Nat->Bool,f=fun m=>(Uu L m !=nt):=⟨_,rfl⟩
 have HFF:Hid (∀m,f m=(Uu L m !=nt)):=hid (fun m=>by rw [hf]);clear h hm ht hn hf
 go_enter Tryz.func140,Tryz.ntmps140
 go_wp2_with fail
 clear hmk
 go_loopw [6] (fun i wr=>∃k:Nat,k<=256/\i=.int .i64 k/\Hid (SmRel w f k wr)) (fun i _=>256-(intOf i).toNat)
 case atStart=>
  refine⟨0,by omega,rfl,hid ⟨?_,?_,kw _ _ _⟩⟩
  ·have e:(bl fun j=>decide (j<0) && f j)=bl fun _=>false:=zs fun i _=>by simp
   rw [e];have h:=j1 (w.alloc (.cells #[.int .u64 0,.int .u64 0,.int .u64 0,.int .u64 0] 29)) (.cells (bl fun _=>false) 4);rw [World.size_alloc] at h;exact h
  ·rw [Below.heap_alloc _ _ _ (by simp)];exact j1 _ _
 case round=>
  obtain⟨k,hk,rfl,HR⟩:=hrel
  by_cases hlt:k<256
  ·have dk:decide ((k:Int)<256)=true:=jT (by omega)
   go_wp2_with fail
   go_loopw [7,8] (fun v i wr2=>∃m:Nat,m<=n/\i=.int .i64 m/\v=.bool (Uu (L.take m) k)/\wr2=wr) (fun _ i _=>n-(intOf i).toNat)
   case atStart=>exact⟨0,by omega,rfl,rfl,rfl⟩
   case round=>
    obtain⟨m,hmn,rfl,rfl,rfl⟩:=hrel
    by_cases hlm:m<n
    ·obtain⟨p,hp⟩:∃p,L[m]? =some p:=⟨_,List.getElem?_eq_getElem (by rw [HL.out];exact hlm)⟩;have HTK:=hid (inL_take (n:=k) hp);obtain⟨c0,c1⟩:=(HP.out.below HR.out.2.2 HP.out.1).2 m p hp;have hgl:=(HP.out.below HR.out.2.2 HP.out.1).1;obtain⟨p0,p1⟩:=p;dsimp only at c0 c1 HTK;clear hp;generalize Uu (L.take m) k=x at*
     cases x
     ·by_cases h0:p0<=k
      ·have d0:decide (p0<=k)=true:=jT h0
       by_cases h1:k<=p1
       ·have d1:decide (k<=p1)=true:=jT h1;have HX:Hid (Uu (L.take (m+1)) k=true):=hid (by rw [HTK.out,jT h0,jT h1];rfl);clear h0 h1
        go_wp2_with fail
        go_roundw
        case rel=>exact⟨m+1,by omega,by go_num,by rw [HX.out],by first|rfl|trivial⟩
        case measure=>simp [intOf];omega
       ·have d1:decide (k<=p1)=false:=jF h1;have HX:Hid (Uu (L.take (m+1)) k=false):=hid (by rw [HTK.out,jT h0,jF h1];rfl);clear h0 h1
        go_wp2_with fail
        go_roundw
        case rel=>exact⟨m+1,by omega,by go_num,by rw [HX.out],by first|rfl|trivial⟩
        case measure=>simp [intOf];omega
      ·have d0:decide (p0<=k)=false:=jF h0;have HX:Hid (Uu (L.take (m+1)) k=false):=hid (by rw [HTK.out,jF h0];rfl);clear h0
       go_wp2_with fail
       go_roundw
       case rel=>exact⟨m+1,by omega,by go_num,by rw [HX.out],by first|rfl|trivial⟩
       case measure=>simp [intOf];omega
     ·have HX:Hid (Uu (L.take (m+1)) k=true):=hid (by rw [HTK.out];rfl);clear c0 c1
      go_wp2_with fail
      go_roundw
      case rel=>exact⟨m+1,by omega,by go_num,by rw [HX.out],by first|rfl|trivial⟩
      case measure=>simp [intOf];omega
    ·obtain rfl:m=n:=by omega
     have HE:Hid (Uu (L.take m) k=Uu L k):=hid (by rw [<-HL.out,List.take_length]);obtain⟨⟨q0,f0,l0⟩,hnx⟩:=HR.out.next hlt;have HNX:=hid hnx;have HFK:=hid (HFF.out k);clear hnx;rw [HE.out];generalize Uu L k=x at*;generalize f k=y at*
     cases nt<;>cases x
     ·have hy:y=false:=HFK.out;subst hy;clear HE
      go_wp2_with fail
      go_roundw
      case rel=>exact⟨k+1,by omega,by go_num,HNX⟩
      case measure=>simp [intOf];omega
     ·have hy:y=true:=HFK.out;subst hy;clear HE
      go_wp2_with fail
      go_roundw
      case rel=>exact⟨k+1,by omega,by go_num,HNX⟩
      case measure=>simp [intOf];omega
     ·have hy:y=true:=HFK.out;subst hy;clear HE
      go_wp2_with fail
      go_roundw
      case rel=>exact⟨k+1,by omega,by go_num,HNX⟩
      case measure=>simp [intOf];omega
     ·have hy:y=false:=HFK.out;subst hy;clear HE
      go_wp2_with fail
      go_roundw
      case rel=>exact⟨k+1,by omega,by go_num,HNX⟩
      case measure=>simp [intOf];omega
  ·obtain rfl:k=256:=by omega
   obtain⟨h1,h2,h3⟩:=HR.out;have hB:VI wr (w.heap.size+1) f:=xl (h1.trans (by rw [show(bl fun j=>decide (j<256) && f j)=bl f from zs fun i hi=>by simp [hi]]));have MK:=hid (J7 (cap:=256) t.a t.b t.c t.d hB HFT.out.1 HFT.out.2.1 HFT.out.2.2.1 HFT.out.2.2.2 (fun n hn=>(HM.out n hn).trans (HFF.out n).symm));have H2:=hid h2;have H3:=hid h3;clear h1 h2 h3 hB
   go_wp2_with fail
   refine MK.out.mono ?_;rintro e w5 ⟨rfl,hb5⟩;have HB5:Hid (Below w.heap.size w w5):=hid (H3.out.trans (hb5.mono H3.out.size))
   obtain⟨⟨q0,q1,q2,q3⟩,⟨f0,f1,f2,f3⟩,hsz⟩:(w5.cell? ⟨w.heap.size,0,none⟩=some (.int .u64 0)/\w5.cell? ⟨w.heap.size,1,none⟩=some (.int .u64 0)/\w5.cell? ⟨w.heap.size,2,none⟩=some (.int .u64 0)/\w5.cell? ⟨w.heap.size,3,none⟩=some (.int .u64 0))/\(w5.frozen? ⟨w.heap.size,0,none⟩=false/\w5.frozen? ⟨w.heap.size,1,none⟩=false/\w5.frozen? ⟨w.heap.size,2,none⟩=false/\w5.frozen? ⟨w.heap.size,3,none⟩=false)/\w.heap.size<w5.heap.size:=by
    have hh:w5.heap[w.heap.size]? =some (.cells #[.int .u64 0,.int .u64 0,.int .u64 0,.int .u64 0] 29):=(hb5.block _ (jS H2.out)).trans H2.out;exact⟨⟨jC hh 0,jC hh 1,jC hh 2,jC hh 3⟩,⟨jU hh 0,jU hh 1,jU hh 2,jU hh 3⟩,jS hh⟩
   clear hb5
   go_wp2_with fail
   refine bodyPost_ret (v:=.agg #[.int .u64 t.a,.int .u64 t.b,.int .u64 t.c,.int .u64 t.d]) (by simp [results,Tryz.results140,go_sem,q0,q1,q2,q3]) rfl ⟨rfl,?_⟩;exact kD HB5.out (jN _) _ _ _ _
end
end Go.Proofs.YtnmalggmbeipaaaGreatDoor
