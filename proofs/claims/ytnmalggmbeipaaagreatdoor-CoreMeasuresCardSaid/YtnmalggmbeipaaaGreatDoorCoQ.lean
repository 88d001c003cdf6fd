/- A part of the proof. -/
import Derived.Test.YtnmalggmbeipaaaGreatDoorCoP
set_option maxRecDepth 100000
set_option maxHeartbeats 16000000
namespace Go.Proofs.YtnmalggmbeipaaaGreatDoor
section
open Go Go.RowKit
attribute [local go_sem ↓] Go.wp_at_zero Go.wp_at_succ
attribute [local go_sem] qX
theorem cparse_ok(s:ByteArray)(m:Int)(hm:0<=m/\m<4)(t:Tr)(hs:s.size<=1048576)(hp:qd s=(0,0,some t))(hR:zu t)(hr:jW qj t<=200)(hz:jc t<=1000000000)(w:World)(hT:Tab w):
  Calls Tryz.prog 7 #[.string s,.int .i64 m] w fun x w'=>∃v e,x=.returned (.tuple #[v,.int .i64 0,.int .i64 e])/\VH w w' m t v e/\Below w.heap.size w w':=by
 have HIM:=j0 (zr m w hm);have PA:=zF s hs w hT;rw [hp] at PA;have HPA:=j0 PA;have HBU:=j0 (fun(A:Nat->Prop) (q:Nat) (X:World) (h:jJ X A t (j6 q))=>UA m hm hR hr hz A q X h);clear hm PA hp hs hT hR hr hz
 go_enter Tryz.func7,Tryz.ntmps7
 go_wp2_with fail
 refine HIM.out.mono ?_;rintro e wx ⟨rfl,rfl⟩
 go_wp2_with fail
 refine HPA.out.mono ?_;rintro x w2 ⟨v,rfl,hv,hb⟩;have hv:jJ w2 (fun b=>w.heap.size<=b) t v:=hv;obtain⟨q,rfl⟩:=hv.pointer;have HB:=j0 hb;have HC:=j0 (HBU.out _ q w2 hv);clear hb HPA HIM hv
 go_wp2_with fail
 refine HC.out.mono ?_;rintro x w3 ⟨v3,e3,rfl,hb3,hc3⟩;have HB3:=j0 (HB.out.trans (hc3.mono HB.out.size));have HU:=j0 hb3;clear hb3 hc3
 go_wp2_with fail
 go_ret3
 exact⟨_,_,rfl,HU.out,HB3.out⟩
end
end Go.Proofs.YtnmalggmbeipaaaGreatDoor
