/- A part of the proof. -/
import Derived.Test.YtnmalggmbeipaaaGreatDoorCoA
set_option maxRecDepth 100000
set_option maxHeartbeats 16000000
namespace Go.Proofs.YtnmalggmbeipaaaGreatDoor
section
open Go Go.RowKit
attribute [local go_sem ↓] Go.wp_at_zero Go.wp_at_succ
attribute [local go_sem] eq4
def joinC (k : Int) (c : Co) : Co -> Co
 | .nil => c
 | b => .node k noW false c b
theorem joinC_nil (k : Int) (c : Co) : joinC k c .nil = c := rfl
theorem joinC_some (k : Int) (c b : Co) (h : b ≠ .nil) : joinC k c b = .node k noW false c b := by
 cases b with
 | nil => exact absurd rfl h
 | node => rfl
def emptyC : Co := .node 0 noW false .nil .nil
def allW : W4 := ⟨nt 0,nt 0,nt 0,nt 0⟩
def choiceC (z : Bool) (c : Co) : Co := if z then .node 3 noW false emptyC c else .node 3 noW false c emptyC
def restC : Co := .node 4 noW true (.node 1 allW false .nil .nil) .nil
theorem cjoined_any (k : Int) (w : World) : Calls Tryz.prog 101 #[.int .i64 k] w fun e w' => e = .returned (.func (.func 151) #[] #[.pointer (some ⟨w.heap.size,0,none⟩)]) /\ w' = w.alloc (.cells #[.int .i64 k] 3) := by
 go_enter Tryz.func101,Tryz.ntmps101
 go_wp2_with fail
 go_ret
 exact ⟨rfl,rfl⟩
theorem cf_joined1 (args : Array Value) (W : World) : (callFunc 151 args).run Tryz.prog W = .ok (.enter 151 args) W := by
 simp [callFunc,go_sem,Tryz.func151];rfl
theorem cjoined1_any (k : Int) (kb : Nat) (c b : Co) (vc vb : Value) (w : World) (hk : w.cell? ⟨kb,0,none⟩ = some (.int .i64 k)) (hc : CoAt w c vc) (hb : CoAt w b vb) :
  Calls Tryz.prog 151 #[vc,vb,.pointer (some ⟨kb,0,none⟩)] w fun e w' => ∃ v,e = .returned v /\ CoAt w' (joinC k c b) v /\ Below w.heap.size w w' := by
 obtain ⟨pc,rfl⟩ := hc.ptr
 rcases hb.nil_iff with ⟨rfl,rfl⟩ | ⟨hn,q,rfl⟩
 ·have HC := qhid hc;clear hc hb
  go_enter Tryz.func151,Tryz.ntmps151
  go_wp2_with fail
  go_ret
  exact ⟨_,rfl,HC.out,Below.refl _ _⟩
 ·have HN := qhid (CoAt.new (k := k) (s := noW) (z := false) hc hb);have HJ := qhid (joinC_some k c b hn);have HB := qhid (below1 w (coOb k noW false (.pointer pc) (.pointer (some ⟨q,0,none⟩))));clear hc hb hn
  go_enter Tryz.func151,Tryz.ntmps151
  go_wp2_with fail
  go_ret
  exact ⟨_,rfl,by rw [HJ.out];exact HN.out,HB.out⟩
theorem emptyC_new (w : World) : CoAt (w.alloc (coOb 0 noW false (.pointer none) (.pointer none))) emptyC (.pointer (some ⟨w.heap.size,0,none⟩)) := CoAt.new .nil .nil
theorem cchoice_any (z : Bool) (c : Co) (vc : Value) (w : World) (hc : CoAt w c vc) :
  Calls Tryz.prog 202 #[vc,.bool z] w fun e w' => ∃ v,e = .returned v /\ CoAt w' (choiceC z c) v /\ Below w.heap.size w w' := by
 obtain ⟨pc,rfl⟩ := hc.ptr;have b1 := below1 w (coOb 0 noW false (.pointer none) (.pointer none));have c1 := hc.up b1
 cases z with
 | true =>
  have n1 := CoAt.new (k := 3) (s := noW) (z := false) (emptyC_new w) c1;rw [World.size_alloc] at n1;have HN := qhid n1;clear n1;have HB := qhid (b1.trans ((below1 _ (coOb 3 noW false (.pointer (some ⟨w.heap.size,0,none⟩)) (.pointer pc))).mono b1.size));clear hc b1 c1
  go_enter Tryz.func202,Tryz.ntmps202
  go_wp2_with fail
  go_ret
  exact ⟨_,rfl,HN.out,HB.out⟩
 | false =>
  have n1 := CoAt.new (k := 3) (s := noW) (z := false) c1 (emptyC_new w);rw [World.size_alloc] at n1;have HN := qhid n1;clear n1;have HB := qhid (b1.trans ((below1 _ (coOb 3 noW false (.pointer pc) (.pointer (some ⟨w.heap.size,0,none⟩)))).mono b1.size));clear hc b1 c1
  go_enter Tryz.func202,Tryz.ntmps202
  go_wp2_with fail
  go_ret
  exact ⟨_,rfl,HN.out,HB.out⟩
theorem crest_any (w : World) : Calls Tryz.prog 102 #[] w fun e w' => ∃ v,e = .returned v /\ CoAt w' restC v /\ Below w.heap.size w w' := by
 have AL := qhid (all_any w)
 go_enter Tryz.func102,Tryz.ntmps102
 go_wp2_with fail
 refine AL.out.mono ?_;rintro e w1 ⟨rfl,h1⟩;have n1 : CoAt (w1.alloc (coOb 1 allW false (.pointer none) (.pointer none))) (.node 1 allW false .nil .nil) (.pointer (some ⟨w1.heap.size,0,none⟩)) := CoAt.new .nil .nil;have n2 := CoAt.new (k := 4) (s := noW) (z := true) n1 .nil;rw [World.size_alloc] at n2;have b1 := below1 w1 (coOb 1 allW false (.pointer none) (.pointer none));have b2 := h1.trans ((b1.trans ((below1 _ (coOb 4 noW true (.pointer (some ⟨w1.heap.size,0,none⟩)) (.pointer none))).mono b1.size)).mono h1.size);have HN := qhid n2;have HB := qhid b2;clear n1 n2 b1 b2 h1 AL
 go_wp2_with fail
 go_ret
 exact ⟨_,rfl,HN.out,HB.out⟩
def byC (m : Int) (c : Co) : Co := if m = 1 then joinC 2 c restC else if m = 2 then joinC 2 restC c else if m = 3 then joinC 2 restC (joinC 2 c restC) else c
theorem joinC_ne (k : Int) (c b : Co) (h : c ≠ .nil) : joinC k c b ≠ .nil := by
 cases b with
 | nil => exact h
 | node => exact Co.noConfusion
theorem cby_any (m : Int) (c : Co) (vc : Value) (w : World) (hc : CoAt w c vc) :
  Calls Tryz.prog 57 #[.int .i64 m,vc] w fun e w' => ∃ v,e = .returned v /\ CoAt w' (byC m c) v /\ Below w.heap.size w w' := by
 have J0 := qhid (cjoined_any 2 w);obtain ⟨w1,hw1⟩ : ∃ X,X = w.alloc (.cells #[.int .i64 2] 3) := ⟨_,rfl⟩;have b1 : Below w.heap.size w w1 := by rw [hw1];exact below1 w _
 have k1 : w1.heap[w.heap.size]? = some (.cells #[.int .i64 2] 3) := by rw [hw1];exact heap_new w _
 rw [<- hw1] at J0;have HW1 := qhid hw1;have HC1 := qhid (hc.up b1);have HK1 := qhid k1;have HB1 := qhid b1
 have JO := qhid (fun (X : World) (hX : Below w1.heap.size w1 X) (c b : Co) (vc vb : Value) (hc : CoAt X c vc) (hb : CoAt X b vb) =>
  cjoined1_any 2 w.heap.size c b vc vb X ((jC (below_kept hX k1) 0).trans rfl) hc hb)
 have RS := qhid crest_any;obtain ⟨res,hres⟩ : ∃ r,r = byC m c := ⟨_,rfl⟩;rw [<- hres];have HRES := qhid hres;clear hw1 b1 k1 hc hres
 by_cases h1 : m = 1
 ·subst h1;have HR : Hid (res = joinC 2 c restC) := qhid (by rw [HRES.out];rfl)
  go_enter Tryz.func57,Tryz.ntmps57
  go_wp2_with fail
  refine J0.out.mono ?_;rintro e wx ⟨rfl,rfl⟩
  go_wp2_with fail
  refine (RS.out wx).mono ?_;rintro e w2 ⟨v2,rfl,c2,b2⟩;have HB2 := qhid b2;have HC2 := qhid c2;clear b2 c2
  go_wp2_with fail
  refine (JO.out w2 HB2.out c restC _ _ (HC1.out.up HB2.out) HC2.out).mono ?_;rintro e w3 ⟨v3,rfl,c3,b3⟩;have HB3 := qhid (HB1.out.trans ((HB2.out.trans (b3.mono HB2.out.size)).mono HB1.out.size));have HC3 := qhid c3;clear b3 c3
  go_wp2_with fail
  go_ret
  exact ⟨_,rfl,by rw [HR.out];exact HC3.out,HB3.out⟩
 have q1 : ((m : Int) == 1) = false := by simpa using h1
 by_cases h2 : m = 2
 ·subst h2;have HR : Hid (res = joinC 2 restC c) := qhid (by rw [HRES.out];rfl);clear h1
  go_enter Tryz.func57,Tryz.ntmps57
  go_wp2_with fail
  refine J0.out.mono ?_;rintro e wx ⟨rfl,rfl⟩
  go_wp2_with fail
  refine (RS.out wx).mono ?_;rintro e w2 ⟨v2,rfl,c2,b2⟩;have HB2 := qhid b2;have HC2 := qhid c2;clear b2 c2
  go_wp2_with fail
  refine (JO.out w2 HB2.out restC c _ _ HC2.out (HC1.out.up HB2.out)).mono ?_;rintro e w3 ⟨v3,rfl,c3,b3⟩;have HB3 := qhid (HB1.out.trans ((HB2.out.trans (b3.mono HB2.out.size)).mono HB1.out.size));have HC3 := qhid c3;clear b3 c3
  go_wp2_with fail
  go_ret
  exact ⟨_,rfl,by rw [HR.out];exact HC3.out,HB3.out⟩
 have q2 : ((m : Int) == 2) = false := by simpa using h2
 by_cases h3 : m = 3
 ·subst h3;have HR : Hid (res = joinC 2 restC (joinC 2 c restC)) := qhid (by rw [HRES.out];rfl);clear h1 h2
  go_enter Tryz.func57,Tryz.ntmps57
  go_wp2_with fail
  refine J0.out.mono ?_;rintro e wx ⟨rfl,rfl⟩
  go_wp2_with fail
  refine (RS.out wx).mono ?_;rintro e w2 ⟨v2,rfl,c2,b2⟩;have HB2 := qhid b2;have HC2 := qhid c2;clear b2 c2
  go_wp2_with fail
  refine (RS.out w2).mono ?_;rintro e w3 ⟨v3,rfl,c3,b3⟩;have HB3 := qhid (HB2.out.trans (b3.mono HB2.out.size));have HC2' := qhid (HC2.out.up b3);have HC3 := qhid c3;clear b3 c3
  go_wp2_with fail
  refine (JO.out w3 HB3.out c restC _ _ (HC1.out.up HB3.out) HC3.out).mono ?_;rintro e w4 ⟨v4,rfl,c4,b4⟩;have HB4 := qhid (HB3.out.trans (b4.mono HB3.out.size));have HC4' := qhid (HC2'.out.up b4);have HC4 := qhid c4;clear b4 c4
  go_wp2_with fail
  refine (JO.out w4 HB4.out restC _ _ _ HC4'.out HC4.out).mono ?_;rintro e w5 ⟨v5,rfl,c5,b5⟩;have HB5 := qhid (HB1.out.trans ((HB4.out.trans (b5.mono HB4.out.size)).mono HB1.out.size));have HC5 := qhid c5;clear b5 c5
  go_wp2_with fail
  go_ret
  exact ⟨_,rfl,by rw [HR.out];exact HC5.out,HB5.out⟩
 have q3 : ((m : Int) == 3) = false := by simpa using h3
 have HR : Hid (res = c) := qhid (by rw [HRES.out];unfold byC;rw [if_neg h1,if_neg h2,if_neg h3]);clear h1 h2 h3
 go_enter Tryz.func57,Tryz.ntmps57
 go_wp2_with fail
 refine J0.out.mono ?_;rintro e wx ⟨rfl,rfl⟩
 go_wp2_with fail
 go_ret
 exact ⟨_,rfl,by rw [HR.out];exact HC1.out,HB1.out⟩
end
end Go.Proofs.YtnmalggmbeipaaaGreatDoor
