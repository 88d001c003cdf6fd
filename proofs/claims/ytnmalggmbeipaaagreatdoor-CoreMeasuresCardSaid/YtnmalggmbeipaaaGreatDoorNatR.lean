/- A part of the proof. -/
import Derived.Test.YtnmalggmbeipaaaGreatDoorNatA
set_option maxRecDepth 100000
set_option maxHeartbeats 16000000
namespace Go.Proofs.YtnmalggmbeipaaaGreatDoor
open Go Go.RowKit
theorem pl_eqR(a b:Int):pl a b=if(if a<=0 then 0 else a)+(if b<=0 then 0 else b)<=9223372036854775807 then(if a<=0 then 0 else a)+(if b<=0 then 0 else b) else 9223372036854775807:=rfl
theorem pl_addR{a b r:Int}(h:(a<0/\b<0/\r=0)\/(a<0/\0<=b/\b<=9223372036854775807/\r=b)\/(b<0/\0<=a/\a<=9223372036854775807/\r=a)\/(0<=a/\0<=b/\a+b<=9223372036854775807/\r=a+b)\/(0<=a/\0<=b/\9223372036854775807<a+b/\r=9223372036854775807)):pl a b=r:=by
 rw [pl_eqR]
 split<;>split<;>split<;>omega
theorem ret64R{a b:Int}(h:a=b):Ending.returned (.int .i64 a)=.returned (.int .i64 b):=by rw [h]
theorem qW(a b:Int)(w:World)(ha:a<=top)(hb:b<=top):
  Calls Tryz.prog 21 #[.int .i64 a,.int .i64 b] w fun e w'=>e=.returned (.int .i64 (pl a b))/\w=w':=by
 unfold top at ha hb
 by_cases pa:0<=a
 all_goals by_cases pb:0<=b
 all_goals
  go_enter Tryz.func21,Tryz.ntmps21
  go_wp2
  all_goals
   go_ret
   exact⟨ret64R (pl_addR (by omega)).symm,rfl⟩
end Go.Proofs.YtnmalggmbeipaaaGreatDoor
