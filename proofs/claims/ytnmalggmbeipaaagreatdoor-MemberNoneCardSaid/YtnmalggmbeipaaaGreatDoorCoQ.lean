/- A part of the proof. -/
import Derived.Test.YtnmalggmbeipaaaGreatDoorCoP
set_option maxRecDepth 100000
set_option maxHeartbeats 16000000
namespace Go.Proofs.YtnmalggmbeipaaaGreatDoor
section
open Go Go.RowKit
attribute [local go_sem ↓] Go.wp_at_zero Go.wp_at_succ
attribute [local go_sem] eq4
theorem cparse_bad (s : ByteArray) (m : Int) (hm : 0 <= m /\ m < 4) (e1 at1 : Int) (he1 : e1 ≠ 0) (hs : s.size <= 1048576) (hp : parseR s = (e1,at1,none)) (w : World) (hT : Tab w) :
  Calls Tryz.prog 7 #[.string s,.int .i64 m] w fun e w' => e = .returned (.tuple #[.pointer none,.int .i64 at1,.int .i64 e1]) /\ Below w.heap.size w w' := by
 have HIM := qhid (cismode_yes m w hm);have PA := parse_any s hs w hT;rw [hp] at PA;have HPA := qhid PA;have u1 : ((e1 : Int) != 0) = true := by simpa using he1
 clear hm PA hp he1 hs hT
 go_enter Tryz.func7,Tryz.ntmps7
 go_wp2_with fail
 refine HIM.out.mono ?_;rintro e wx ⟨rfl,rfl⟩
 go_wp2_with fail
 refine HPA.out.mono ?_;rintro x w2 ⟨v,rfl,hv,hb⟩;have hv : v = .pointer none := hv;subst hv;have HB := qhid hb;clear hb HPA HIM
 go_wp2_with fail
 go_ret3
 exact ⟨rfl,HB.out⟩
theorem cparse_ok (s : ByteArray) (m : Int) (hm : 0 <= m /\ m < 4) (t : Tr) (hs : s.size <= 1048576) (hp : parseR s = (0,0,some t)) (hR : RtT t) (hr : foldR rightN t <= 200) (hz : trSize t <= 1000000000) (w : World) (hT : Tab w) :
  Calls Tryz.prog 7 #[.string s,.int .i64 m] w fun x w' => ∃ v e,x = .returned (.tuple #[v,.int .i64 0,.int .i64 e]) /\ BuiltC w w' m t v e /\ Below w.heap.size w w' := by
 have HIM := qhid (cismode_yes m w hm);have PA := parse_any s hs w hT;rw [hp] at PA;have HPA := qhid PA;have HBU := qhid (fun (A : Nat -> Prop) (q : Nat) (X : World) (h : NdAt X A t (ndPtr q)) => cbuild_ok m hm hR hr hz A q X h);clear hm PA hp hs hT hR hr hz
 go_enter Tryz.func7,Tryz.ntmps7
 go_wp2_with fail
 refine HIM.out.mono ?_;rintro e wx ⟨rfl,rfl⟩
 go_wp2_with fail
 refine HPA.out.mono ?_;rintro x w2 ⟨v,rfl,hv,hb⟩;have hv : NdAt w2 (fun b => w.heap.size <= b) t v := hv;obtain ⟨q,rfl⟩ := hv.pointer;have HB := qhid hb;have HC := qhid (HBU.out _ q w2 hv);clear hb HPA HIM hv
 go_wp2_with fail
 refine HC.out.mono ?_;rintro x w3 ⟨v3,e3,rfl,hb3,hc3⟩;have HB3 := qhid (HB.out.trans (hc3.mono HB.out.size));have HU := qhid hb3;clear hb3 hc3
 go_wp2_with fail
 go_ret3
 exact ⟨_,_,rfl,HU.out,HB3.out⟩
end
end Go.Proofs.YtnmalggmbeipaaaGreatDoor
