/- A part of the proof. -/
import Derived.Test.YtnmalggmbeipaaaGreatDoorCoM
set_option maxRecDepth 100000
set_option maxHeartbeats 16000000
namespace Go.Proofs.YtnmalggmbeipaaaGreatDoor
section
open Go Go.RowKit
attribute [local go_sem ↓] Go.wp_at_zero Go.wp_at_succ
attribute [local go_sem] eq4
def addS (a : Int) (xs : List Int) : Int := xs.foldl (fun a x => adL [a,x]) a
def szK (k lo hi : Int) (xs : List Int) : Int := if xs = [] then 1 else if k = 6 then repM (xs.headD 0) lo hi else addS ((xs.length : Int) - 1) xs
mutual
def szT : Tr -> Int
 | .mk k _ lo hi _ _ _ l => szK k lo hi (szTs l)
def szTs : List Tr -> List Int
 | [] => []
 | t :: r => szT t :: szTs r
end
theorem szTs_map : ∀ l : List Tr,szTs l = l.map szT
 | [] => rfl
 | t :: r => by rw [szTs,szTs_map r];rfl
theorem addS_le (a : Int) (xs : List Int) (h : a <= top) : addS a xs <= top := by
 unfold addS
 induction xs generalizing a with
 | nil => exact h
 | cons x r ih => exact ih _ (adL_le _ _ _)
theorem addS_nn (a : Int) (xs : List Int) (h : 0 <= a) : 0 <= addS a xs := by
 unfold addS
 induction xs generalizing a with
 | nil => exact h
 | cons x r ih => exact ih _ (adL_nn _)
theorem addS_take (a : Int) (xs : List Int) (i : Nat) (x : Int) (h : xs[i]? = some x) : addS a (xs.take (i + 1)) = adL [addS a (xs.take i),x] := by
 obtain ⟨hi,rfl⟩ := List.getElem?_eq_some_iff.1 h;unfold addS;rw [List.take_succ_eq_append_getElem hi,List.foldl_append];rfl
theorem repM_le (x lo hi : Int) : repM x lo hi <= top := by
 unfold repM
 split
 ·exact adL_le _ _ _
 ·split
  ·unfold top;omega
  ·split <;> exact adL_le _ _ _
theorem repM_nn (x lo hi : Int) : 0 <= repM x lo hi := by
 unfold repM
 split
 ·exact adL_nn _
 ·split
  ·omega
  ·split <;> exact adL_nn _
theorem szT_bd (u : Tr) (hu : trSize u <= 1000000000) : 0 <= szT u /\ szT u <= top := by
 obtain ⟨k,s,lo,hi,z,a,b,l⟩ := u;rw [trSize] at hu;have hl := trSizes_len l;rw [szT,szTs_map];unfold szK
 split
 ·unfold top;omega
 ·split
  ·exact ⟨repM_nn _ _ _,repM_le _ _ _⟩
  ·rename_i h _
   have : l ≠ [] := fun e => h (by rw [e];rfl)
   have : 0 < l.length := List.length_pos_iff.2 this;exact ⟨addS_nn _ _ (by rw [List.length_map];omega),addS_le _ _ (by rw [List.length_map];unfold top;omega)⟩
def MapS (w : World) (mb : Nat) (AA : Nat -> Prop) : Prop := ∃ D,PtrMap w mb D /\ ∀ p ∈ D,∃ u,NdAt w AA u (ndPtr p.1) /\ p.2 = szT u
theorem grown_trans {X Y Z : World} {r : Option Nat} (h : X.grownBy Y r) (k : Y.grownBy Z r) : X.grownBy Z r := ⟨k.os.trans h.os,k.tape.trans h.tape,k.output.trans h.output,Nat.le_trans h.size k.size,fun b hb hne => (k.block b (Nat.lt_of_lt_of_le hb h.size) hne).trans (h.block b hb hne)⟩
theorem grown_refl2 (w : World) (r : Option Nat) : w.grownBy w r := ⟨rfl,rfl,rfl,jN _,fun _ _ _ => rfl⟩
theorem mem_putV {D : List (Nat × Int)} {q : Nat} {v : Int} {p : Nat × Int} (h : p ∈ putD D q v) : p ∈ D \/ p = (q,v) := by
 induction D with
 | nil => exact .inr (by simpa [putD] using h)
 | cons d D ih =>
  rw [putD] at h
  split at h
  ·rcases List.mem_cons.1 h with h | h
   ·exact .inr h
   ·exact .inl (List.mem_cons_of_mem _ h)
  ·rcases List.mem_cons.1 h with h | h
   ·exact .inl (h ▸ List.mem_cons_self ..)
   ·rcases ih h with h | h
    ·exact .inl (List.mem_cons_of_mem _ h)
    ·exact .inr h
theorem MapS.up {w w' : World} {mb : Nat} {AA : Nat -> Prop} (h : MapS w mb AA) (hb : Below w.heap.size w w') : MapS w' mb AA := by
 obtain ⟨D,h1,h2⟩ := h;exact ⟨D,h1.below hb,fun p hp => by obtain ⟨u,g1,g2⟩ := h2 p hp;exact ⟨u,g1.up hb,g2⟩⟩
def OfC (u : Tr) : Prop := ∀ (AA : Nat -> Prop) (q mb : Nat) (X : World),NdAt X AA u (ndPtr q) -> (∀ b,AA b -> b ≠ mb) -> MapS X mb AA ->
 Calls Tryz.prog 55 #[.map (some mb),ndPtr q] X fun e w' => e = .returned (.int .i64 (szT u)) /\ X.grownBy w' (some mb) /\ MapS w' mb AA
def mdT (mb q c cap q2 : Nat) (lo hi sz : Int) : Nat -> Value
 | 0 => .map (some mb)
 | 1 => .pointer (some ⟨q,0,none⟩)
 | 2 => .pointer (some ⟨q,0,none⟩)
 | 3 => .pointer (some ⟨q,8,none⟩)
 | 4 => .slice (some ⟨c,0,none⟩) 1 cap
 | 5 => .pointer (some ⟨c,0,none⟩)
 | 6 => .pointer (some ⟨q2,0,none⟩)
 | 7 => .int .i64 sz
 | 8 => .pointer (some ⟨q,0,none⟩)
 | 9 => .pointer (some ⟨q,0,none⟩)
 | 10 => .pointer (some ⟨q,5,none⟩)
 | 11 => .int .i64 lo
 | 12 => .pointer (some ⟨q,0,none⟩)
 | 13 => .pointer (some ⟨q,0,none⟩)
 | 14 => .pointer (some ⟨q,6,none⟩)
 | 15 => .int .i64 hi
 | 16 => .int .i64 (repM sz lo hi)
 | 17 => .int .i64 (repM sz lo hi)
 | _ => undef
theorem made_rep (s : W4) (lo hi : Int) (z : Bool) (na nb : Nat) (u : Tr) (hO : OfC u) (hlo : 0 <= lo /\ lo <= 1000) (hhi : hi = -1 \/ (lo <= hi /\ hi <= 1000)) (hsz : szT u <= top) (AA : Nat -> Prop) (q mb : Nat) (w : World) (hN : NdAt w AA (.mk 6 s lo hi z na nb [u]) (ndPtr q)) (hmb : ∀ b,AA b -> b ≠ mb) (hM : MapS w mb AA) :
  Calls Tryz.prog 100 #[.map (some mb),ndPtr q] w fun e w' => e = .returned (.int .i64 (repM (szT u) lo hi)) /\ w.grownBy w' (some mb) /\ MapS w' mb AA := by
 obtain ⟨q',p,cap,e,hqa,hq,hk⟩ := hN.head;injection e with e;injection e with e;injection e with e;subst e
 obtain ⟨c,v,rfl,hca,hcl,hcc,hu⟩ : ∃ c v,p = some ⟨c,0,none⟩ /\ AA c /\ c < w.heap.size /\ w.cell? ⟨c,0,none⟩ = some v /\ NdAt w AA u v := by
  cases hN with
  | node _ _ _ _ _ _ _ _ _ p' cap' us hq' hb' hc' ht' =>
   have e2 := hq.symm.trans hb';simp at e2;obtain ⟨c,h1,h2,h3,h4⟩ := hc' 0 u rfl;exact ⟨c,us 0,by rw [e2.1];exact h1,h2,h3,h4,ht' 0 u rfl⟩
 obtain ⟨q2,rfl⟩ := hu.pointer;obtain ⟨sz,hs⟩ : ∃ sz,szT u = sz := ⟨_,rfl⟩;rw [hs] at hsz ⊢;have HSZ := qhid hs;have HB := qhid (And.intro hsz (And.intro hlo.1 (And.intro hlo.2 hhi)));have HO := qhid hO;have HU := qhid hu;have HQ := qhid hq;have HQL := qhid (jS hq);have HQM := qhid (fun e : some q = some mb => hmb q hqa (Option.some.inj e));have HCL := qhid hcl;have HCM := qhid (fun e : some c = some mb => hmb c hca (Option.some.inj e));have HCC := qhid hcc;have HMB := qhid hmb;have HM := qhid hM;have x0 := jC hq 0;have hxl := jS hq;simp only [List.getElem?_toArray,List.getElem?_cons_zero] at x0;clear hN hq hk hca hcl hcc hu hmb hM hO hs hsz hlo hhi hqa
 go_enter Tryz.func100,Tryz.ntmps100
 go_upto_region 2 with fail
 clear x0 hxl;refine Reg.wp_region_C (mdT mb q c cap q2 lo hi sz) (fun _ X => w.grownBy X (some mb) /\ MapS X mb AA) [0,1,2,3,4,5,6,7,8,9,10,11,12,13,14,15,16,17] (by rfl) (by kernel_rfl) (by kernel_rfl) ?_ ?_ ?_
 ·exact ⟨⟨rfl,rfl,rfl,jN _,fun _ _ _ => rfl⟩,HM.out.up (Below.drew (Below.refl _ _))⟩
 ·refine ⟨fun listed A X hI hcl hin hun hall => .inl ⟨Reg.wanted_none rfl,?_⟩,?_⟩
  ·have e0 := hI.evo (d := 0) (by kernel_rfl) rfl;have hX : w.grownBy X (some mb) /\ MapS X mb AA := hI.st;have HX := qhid hX;clear hI hall hX hcl;unfold Reg.Yields
   go_simp
   first | rfl | exact ⟨rfl,HX.out⟩ | (refine ⟨?_,HX.out⟩;simp [mdT];done)
  refine ⟨fun listed A X hI hcl hin hun hall => .inl ⟨Reg.wanted_none rfl,?_⟩,?_⟩
  ·have e1 := hI.evo (d := 1) (by kernel_rfl) rfl;have hX : w.grownBy X (some mb) /\ MapS X mb AA := hI.st;have HX := qhid hX;clear hI hall hX hcl;unfold Reg.Yields
   go_simp
   first | rfl | exact ⟨rfl,HX.out⟩ | (refine ⟨?_,HX.out⟩;simp [mdT];done)
  refine ⟨fun listed A X hI hcl hin hun hall => .inl ⟨Reg.wanted_none rfl,?_⟩,?_⟩
  ·have e14 : A.tmps[14]? = some (.pointer (some ⟨q,0,none⟩)) := hI.ev (i := 1) (d := 14) (by rfl) (hall ⟨1,.data⟩ (by simp) rfl);have hX : w.grownBy X (some mb) /\ MapS X mb AA := hI.st;have hb := (hX.1.block q HQL.out HQM.out).trans HQ.out;have y8 := jC hb 8;have hyl := jS hb;simp only [List.getElem?_toArray,List.getElem?_cons_zero,List.getElem?_cons_succ] at y8;clear hb;have HX := qhid hX;clear hI hall hX hcl;unfold Reg.Yields
   go_simp
   first | rfl | exact ⟨rfl,HX.out⟩ | (refine ⟨?_,HX.out⟩;simp [mdT];done)
  refine ⟨fun listed A X hI hcl hin hun hall => .inl ⟨Reg.wanted_none rfl,?_⟩,?_⟩
  ·have e15 : A.tmps[15]? = some (.pointer (some ⟨q,0,none⟩)) := hI.ev (i := 2) (d := 15) (by rfl) (hall ⟨2,.data⟩ (by simp) rfl);have hX : w.grownBy X (some mb) /\ MapS X mb AA := hI.st;have hb := (hX.1.block q HQL.out HQM.out).trans HQ.out;have y8 := jC hb 8;have hyl := jS hb;simp only [List.getElem?_toArray,List.getElem?_cons_zero,List.getElem?_cons_succ] at y8;clear hb;have HX := qhid hX;clear hI hall hX hcl;unfold Reg.Yields
   go_simp
   first | rfl | exact ⟨rfl,HX.out⟩ | (refine ⟨?_,HX.out⟩;simp [mdT];done)
  refine ⟨fun listed A X hI hcl hin hun hall => .inl ⟨Reg.wanted_none rfl,?_⟩,?_⟩
  ·have e16 : A.tmps[16]? = some (.pointer (some ⟨q,8,none⟩)) := hI.ev (i := 3) (d := 16) (by rfl) (hall ⟨3,.data⟩ (by simp) rfl);have hX : w.grownBy X (some mb) /\ MapS X mb AA := hI.st;have hb := (hX.1.block q HQL.out HQM.out).trans HQ.out;have y8 := jC hb 8;have hyl := jS hb;simp only [List.getElem?_toArray,List.getElem?_cons_zero,List.getElem?_cons_succ] at y8;clear hb;have HX := qhid hX;clear hI hall hX hcl;unfold Reg.Yields
   go_simp
   first | rfl | exact ⟨rfl,HX.out⟩ | (refine ⟨?_,HX.out⟩;simp [mdT];done)
  refine ⟨fun listed A X hI hcl hin hun hall => .inl ⟨Reg.wanted_none rfl,?_⟩,?_⟩
  ·have e17 : A.tmps[17]? = some (.slice (some ⟨c,0,none⟩) 1 cap) := hI.ev (i := 4) (d := 17) (by rfl) (hall ⟨4,.data⟩ (by simp) rfl);have hX : w.grownBy X (some mb) /\ MapS X mb AA := hI.st;have HX := qhid hX;clear hI hall hX hcl;unfold Reg.Yields
   go_simp
   first | rfl | exact ⟨rfl,HX.out⟩ | (refine ⟨?_,HX.out⟩;simp [mdT];done)
  refine ⟨fun listed A X hI hcl hin hun hall => .inl ⟨Reg.wanted_none rfl,?_⟩,?_⟩
  ·have e18 : A.tmps[18]? = some (.pointer (some ⟨c,0,none⟩)) := hI.ev (i := 5) (d := 18) (by rfl) (hall ⟨5,.data⟩ (by simp) rfl);have hX : w.grownBy X (some mb) /\ MapS X mb AA := hI.st;have f := (World.cell?_of_block (w := w) (a := ⟨c,0,none⟩) (hX.1.block c HCL.out HCM.out)).trans HCC.out;have HX := qhid hX;clear hI hall hX hcl;unfold Reg.Yields
   go_simp
   first | rfl | exact ⟨rfl,HX.out⟩ | (refine ⟨?_,HX.out⟩;simp [mdT];done)
  refine ⟨fun listed A X hI hcl hin hun hall => .inl ⟨Reg.wanted_none rfl,?_⟩,?_⟩
  ·have e13 : A.tmps[13]? = some (.map (some mb)) := hI.ev (i := 0) (d := 13) (by rfl) (hall ⟨0,.data⟩ (by simp) rfl);have e19 : A.tmps[19]? = some (.pointer (some ⟨q2,0,none⟩)) := hI.ev (i := 6) (d := 19) (by rfl) (hall ⟨6,.data⟩ (by simp) rfl);have hX : w.grownBy X (some mb) /\ MapS X mb AA := hI.st;have HX := qhid hX;clear hI hall hX hcl;unfold Reg.Yields
   go_simp
   exact (HO.out AA q2 mb X (HU.out.keep HX.out.1 (fun b hb e => HMB.out b hb (Option.some.inj e).symm)) HMB.out HX.out.2).mono fun e w2 h => by
    obtain ⟨he,hg,hm⟩ := h;rw [HSZ.out] at he;exact ⟨_,he,rfl,grown_trans HX.out.1 hg,hm⟩
  refine ⟨fun listed A X hI hcl hin hun hall => .inl ⟨Reg.wanted_none rfl,?_⟩,?_⟩
  ·have e1 := hI.evo (d := 1) (by kernel_rfl) rfl;have hX : w.grownBy X (some mb) /\ MapS X mb AA := hI.st;have HX := qhid hX;clear hI hall hX hcl;unfold Reg.Yields
   go_simp
   first | rfl | exact ⟨rfl,HX.out⟩ | (refine ⟨?_,HX.out⟩;simp [mdT];done)
  refine ⟨fun listed A X hI hcl hin hun hall => .inl ⟨Reg.wanted_none rfl,?_⟩,?_⟩
  ·have e21 : A.tmps[21]? = some (.pointer (some ⟨q,0,none⟩)) := hI.ev (i := 8) (d := 21) (by rfl) (hall ⟨8,.data⟩ (by simp) rfl);have hX : w.grownBy X (some mb) /\ MapS X mb AA := hI.st;have hb := (hX.1.block q HQL.out HQM.out).trans HQ.out;have y5 := jC hb 5;have hyl := jS hb;simp only [List.getElem?_toArray,List.getElem?_cons_zero,List.getElem?_cons_succ] at y5;clear hb;have HX := qhid hX;clear hI hall hX hcl;unfold Reg.Yields
   go_simp
   first | rfl | exact ⟨rfl,HX.out⟩ | (refine ⟨?_,HX.out⟩;simp [mdT];done)
  refine ⟨fun listed A X hI hcl hin hun hall => .inl ⟨Reg.wanted_none rfl,?_⟩,?_⟩
  ·have e22 : A.tmps[22]? = some (.pointer (some ⟨q,0,none⟩)) := hI.ev (i := 9) (d := 22) (by rfl) (hall ⟨9,.data⟩ (by simp) rfl);have hX : w.grownBy X (some mb) /\ MapS X mb AA := hI.st;have hb := (hX.1.block q HQL.out HQM.out).trans HQ.out;have y5 := jC hb 5;have hyl := jS hb;simp only [List.getElem?_toArray,List.getElem?_cons_zero,List.getElem?_cons_succ] at y5;clear hb;have HX := qhid hX;clear hI hall hX hcl;unfold Reg.Yields
   go_simp
   first | rfl | exact ⟨rfl,HX.out⟩ | (refine ⟨?_,HX.out⟩;simp [mdT];done)
  refine ⟨fun listed A X hI hcl hin hun hall => .inl ⟨Reg.wanted_none rfl,?_⟩,?_⟩
  ·have e23 : A.tmps[23]? = some (.pointer (some ⟨q,5,none⟩)) := hI.ev (i := 10) (d := 23) (by rfl) (hall ⟨10,.data⟩ (by simp) rfl);have hX : w.grownBy X (some mb) /\ MapS X mb AA := hI.st;have hb := (hX.1.block q HQL.out HQM.out).trans HQ.out;have y5 := jC hb 5;have hyl := jS hb;simp only [List.getElem?_toArray,List.getElem?_cons_zero,List.getElem?_cons_succ] at y5;clear hb;have HX := qhid hX;clear hI hall hX hcl;unfold Reg.Yields
   go_simp
   first | rfl | exact ⟨rfl,HX.out⟩ | (refine ⟨?_,HX.out⟩;simp [mdT];done)
  refine ⟨fun listed A X hI hcl hin hun hall => .inl ⟨Reg.wanted_none rfl,?_⟩,?_⟩
  ·have e1 := hI.evo (d := 1) (by kernel_rfl) rfl;have hX : w.grownBy X (some mb) /\ MapS X mb AA := hI.st;have HX := qhid hX;clear hI hall hX hcl;unfold Reg.Yields
   go_simp
   first | rfl | exact ⟨rfl,HX.out⟩ | (refine ⟨?_,HX.out⟩;simp [mdT];done)
  refine ⟨fun listed A X hI hcl hin hun hall => .inl ⟨Reg.wanted_none rfl,?_⟩,?_⟩
  ·have e25 : A.tmps[25]? = some (.pointer (some ⟨q,0,none⟩)) := hI.ev (i := 12) (d := 25) (by rfl) (hall ⟨12,.data⟩ (by simp) rfl);have hX : w.grownBy X (some mb) /\ MapS X mb AA := hI.st;have hb := (hX.1.block q HQL.out HQM.out).trans HQ.out;have y6 := jC hb 6;have hyl := jS hb;simp only [List.getElem?_toArray,List.getElem?_cons_zero,List.getElem?_cons_succ] at y6;clear hb;have HX := qhid hX;clear hI hall hX hcl;unfold Reg.Yields
   go_simp
   first | rfl | exact ⟨rfl,HX.out⟩ | (refine ⟨?_,HX.out⟩;simp [mdT];done)
  refine ⟨fun listed A X hI hcl hin hun hall => .inl ⟨Reg.wanted_none rfl,?_⟩,?_⟩
  ·have e26 : A.tmps[26]? = some (.pointer (some ⟨q,0,none⟩)) := hI.ev (i := 13) (d := 26) (by rfl) (hall ⟨13,.data⟩ (by simp) rfl);have hX : w.grownBy X (some mb) /\ MapS X mb AA := hI.st;have hb := (hX.1.block q HQL.out HQM.out).trans HQ.out;have y6 := jC hb 6;have hyl := jS hb;simp only [List.getElem?_toArray,List.getElem?_cons_zero,List.getElem?_cons_succ] at y6;clear hb;have HX := qhid hX;clear hI hall hX hcl;unfold Reg.Yields
   go_simp
   first | rfl | exact ⟨rfl,HX.out⟩ | (refine ⟨?_,HX.out⟩;simp [mdT];done)
  refine ⟨fun listed A X hI hcl hin hun hall => .inl ⟨Reg.wanted_none rfl,?_⟩,?_⟩
  ·have e27 : A.tmps[27]? = some (.pointer (some ⟨q,6,none⟩)) := hI.ev (i := 14) (d := 27) (by rfl) (hall ⟨14,.data⟩ (by simp) rfl);have hX : w.grownBy X (some mb) /\ MapS X mb AA := hI.st;have hb := (hX.1.block q HQL.out HQM.out).trans HQ.out;have y6 := jC hb 6;have hyl := jS hb;simp only [List.getElem?_toArray,List.getElem?_cons_zero,List.getElem?_cons_succ] at y6;clear hb;have HX := qhid hX;clear hI hall hX hcl;unfold Reg.Yields
   go_simp
   first | rfl | exact ⟨rfl,HX.out⟩ | (refine ⟨?_,HX.out⟩;simp [mdT];done)
  refine ⟨fun listed A X hI hcl hin hun hall => .inl ⟨Reg.wanted_none rfl,?_⟩,?_⟩
  ·have e20 : A.tmps[20]? = some (.int .i64 sz) := hI.ev (i := 7) (d := 20) (by rfl) (hall ⟨7,.data⟩ (by simp) rfl);have e24 : A.tmps[24]? = some (.int .i64 lo) := hI.ev (i := 11) (d := 24) (by rfl) (hall ⟨11,.data⟩ (by simp) rfl);have e28 : A.tmps[28]? = some (.int .i64 hi) := hI.ev (i := 15) (d := 28) (by rfl) (hall ⟨15,.data⟩ (by simp) rfl);have hX : w.grownBy X (some mb) /\ MapS X mb AA := hI.st;have HX := qhid hX;clear hI hall hX hcl;unfold Reg.Yields
   go_simp
   exact (crepeated_any sz lo hi X HB.out.1 HB.out.2.1 HB.out.2.2.1 HB.out.2.2.2).mono fun e w2 h => by
    obtain ⟨he,hb⟩ := h;exact ⟨_,he,rfl,grown_trans HX.out.1 (grown_below _ hb),HX.out.2.up hb⟩
  refine ⟨fun listed A X hI hcl hin hun hall => .inl ⟨Reg.wanted_none rfl,?_⟩,?_⟩
  ·have e29 : A.tmps[29]? = some (.int .i64 (repM sz lo hi)) := hI.ev (i := 16) (d := 29) (by rfl) (hall ⟨16,.data⟩ (by simp) rfl);have hX : w.grownBy X (some mb) /\ MapS X mb AA := hI.st;have HX := qhid hX;clear hI hall hX hcl;unfold Reg.Yields
   go_simp
   first | rfl | exact ⟨rfl,HX.out⟩ | (refine ⟨?_,HX.out⟩;simp [mdT];done)
  trivial
 ·intro X hS;have HX := qhid hS;clear hS;simp [Reg.finalTmps,Reg.dstAt,Reg.valOf,mdT]
  go_wp2_with fail
  go_ret
  exact ⟨rfl,HX.out.1,HX.out.2⟩
theorem NdAt.kidA {w : World} {A : Nat -> Prop} {k : Int} {s : W4} {lo hi : Int} {z : Bool} {a b : Nat} {l : List Tr} {q : Nat} (h : NdAt w A (.mk k s lo hi z a b l) (ndPtr q)) :
  ∃ p cap,A q /\ w.heap[q]? = some (ndOb k s lo hi z (.slice p l.length cap) a b) /\ ∀ (i : Nat) (t : Tr),l[i]? = some t -> ∃ c q',p = some ⟨c,0,none⟩ /\ A c /\ c < w.heap.size /\ w.cell? ⟨c,i,none⟩ = some (ndPtr q') /\ NdAt w A t (ndPtr q') := by
 cases h with
 | node _ _ _ _ _ _ _ _ _ p cap us hq hb hc ht =>
  refine ⟨p,cap,hq,hb,fun i t hi => ?_⟩;obtain ⟨c,h1,h2,h3,h4⟩ := hc i t hi;obtain ⟨q',h5⟩ := (ht i t hi).pointer;exact ⟨c,q',h1,h2,h3,by rw [h4,h5],by have := ht i t hi;rw [h5] at this;exact this⟩
theorem made_many (k : Int) (hk6 : k ≠ 6) (s : W4) (lo hi : Int) (z : Bool) (na nb : Nat) (l : List Tr) (hO : ∀ u ∈ l,OfC u) (hl1 : 0 < l.length) (hl2 : l.length <= 1000000000) (hsz : ∀ u ∈ l,szT u <= top) (AA : Nat -> Prop) (q mb : Nat) (w : World) (hN : NdAt w AA (.mk k s lo hi z na nb l) (ndPtr q)) (hmb : ∀ b,AA b -> b ≠ mb) (hM : MapS w mb AA) :
  Calls Tryz.prog 100 #[.map (some mb),ndPtr q] w fun e w' => e = .returned (.int .i64 (addS ((l.length : Int) - 1) (l.map szT))) /\ w.grownBy w' (some mb) /\ MapS w' mb AA := by
 obtain ⟨p,cap,hqa,hq,hkid⟩ := hN.kidA;have HO := qhid hO;have HK := qhid hkid;have HSZ := qhid hsz;have HMB := qhid hmb;have HM := qhid hM;have HQ := qhid hq;have HG0 := qhid (grown_refl2 w (some mb));have x0 := jC hq 0;have x8 := jC hq 8;have hxl := jS hq;simp only [List.getElem?_toArray,List.getElem?_cons_zero,List.getElem?_cons_succ] at x0 x8;have k6 : ((k : Int) == 6) = false := by simpa using hk6
 clear hN hqa hq hkid hO hsz hmb hM hk6
 go_enter Tryz.func100,Tryz.ntmps100
 go_wp2_with fail
 clear x0 x8 hxl
 go_loopw [5,41] (fun sv iv wr => ∃ i : Nat,i <= l.length /\ iv = .int .i64 (i : Int) /\ sv = .int .i64 (addS ((l.length : Int) - 1) ((l.map szT).take i)) /\ Hid (w.grownBy wr (some mb)) /\ Hid (MapS wr mb AA)) (fun _ iv _ => l.length - (intOf iv).toNat)
 case atStart => exact ⟨0,by omega,rfl,rfl,HG0,HM⟩
 case round =>
  obtain ⟨i,hi2,rfl,rfl,HG,HM⟩ := hrel
  by_cases hlt : i < l.length
  ·obtain ⟨u,hu⟩ : ∃ u,l[i]? = some u := ⟨_,List.getElem?_eq_getElem hlt⟩;have hm := List.mem_of_getElem? hu;obtain ⟨c,q',rfl,hca,hcl,hcc,hnu⟩ := HK.out i u hu;have hcell : wr.cell? ⟨c,i,none⟩ = some (ndPtr q') := (World.cell?_of_block (w := w) (a := ⟨c,i,none⟩) (HG.out.block c hcl (fun e => HMB.out c hca (Option.some.inj e)))).trans hcc;have HC := qhid (HO.out u hm AA q' mb wr (hnu.keep HG.out (fun b hb e => HMB.out b hb (Option.some.inj e).symm)) HMB.out HM.out);obtain ⟨acc,hacc⟩ : ∃ a,addS ((l.length : Int) - 1) ((l.map szT).take i) = a := ⟨_,rfl⟩;obtain ⟨x,hx⟩ : ∃ x,szT u = x := ⟨_,rfl⟩;have HT := qhid (addS_take ((l.length : Int) - 1) (l.map szT) i (szT u) (by rw [List.getElem?_map,hu];rfl));have HB := qhid (And.intro (addS_le ((l.length : Int) - 1) ((l.map szT).take i) (by unfold top;omega)) (HSZ.out u hm));rw [hacc,hx] at HT HB;rw [hx] at HC;rw [hacc];clear hu hm hca hcl hcc hnu hacc hx
   go_wp2_with fail
   refine HC.out.mono ?_;rintro e w2 ⟨rfl,g2,m2⟩;have HG2 := qhid (grown_trans HG.out g2);have HM2 := qhid m2;clear g2 m2 HC hcell;obtain ⟨w3,hw3⟩ : ∃ Y,Y = w2.alloc (.cells #[.int .i64 acc,.int .i64 x] 3) := ⟨_,rfl⟩;have b3 : Below w2.heap.size w2 w3 := by rw [hw3];exact below1 _ _
   have K3 := qhid (add_cells w2.heap.size 2 [acc,x] w3 (by simp) (fun z hz => by
    simp only [List.mem_cons,List.not_mem_nil,or_false] at hz
    rcases hz with h | h
    ·rw [h];exact HB.out.1
    ·rw [h];exact HB.out.2
    ) (by rw [hw3];exact heap_new w2 _))
   have HG3 := qhid (grown_trans HG2.out (grown_below _ b3));have HM3 := qhid (HM2.out.up b3);clear b3 HG2 HM2
   go_wp2_with fail
   rw [<- hw3];clear hw3;refine K3.out.mono ?_;rintro e wz ⟨rfl,hz⟩;obtain rfl : w3 = wz := hz;clear K3
   go_wp2_with fail
   go_roundw
   case rel => first | exact ⟨i + 1,by omega,by go_num,by rw [HT.out],HG3,HM3⟩ | ((repeat apply Exists.intro);refine ⟨?_,rfl⟩;exact ⟨i + 1,by omega,by go_num,by rw [HT.out],HG3,HM3⟩)
   case measure => simp [intOf];omega
  ·obtain rfl : i = l.length := by omega
   have e : (l.map szT).take l.length = l.map szT := List.take_of_length_le (by simp);rw [e];clear e
   go_wp2_with fail
   go_ret
   exact ⟨rfl,HG.out,HM.out⟩
theorem IsC_nd {w : World} {A : Nat -> Prop} {u : Tr} {q : Nat} (h : NdAt w A u (ndPtr q)) : IsC w q := by
 obtain ⟨k,s,lo,hi,z,a,b,l⟩ := u;obtain ⟨p,cap,_,hb,_⟩ := h.kidA;exact ⟨_,_,hb⟩
theorem gotD_mem {D : List (Nat × Int)} {q : Nat} {v : Int} (h : gotD D q = (v,true)) : (q,v) ∈ D := by
 induction D with
 | nil => rw [gotD] at h;cases h
 | cons p D ih =>
  rw [gotD] at h
  split at h
  ·rename_i e
   injection h with h1 _;rw [e,<- h1];exact List.mem_cons_self ..
  ·exact List.mem_cons_of_mem _ (ih h)
theorem of_step (k : Int) (s : W4) (lo hi : Int) (z : Bool) (na nb : Nat) (l : List Tr) (hl2 : l.length <= 1000000000) (hmd : 0 < l.length -> ∀ (AA : Nat -> Prop) (q mb : Nat) (w : World),NdAt w AA (.mk k s lo hi z na nb l) (ndPtr q) -> (∀ b,AA b -> b ≠ mb) -> MapS w mb AA ->
   Calls Tryz.prog 100 #[.map (some mb),ndPtr q] w fun e w' => e = .returned (.int .i64 (szT (.mk k s lo hi z na nb l))) /\ w.grownBy w' (some mb) /\ MapS w' mb AA) : OfC (.mk k s lo hi z na nb l) := by
 intro AA q mb w hN hmb hM;obtain ⟨p,cap,hqa,hq,_⟩ := hN.kidA;have x8 := jC hq 8;have hxl := jS hq;simp only [List.getElem?_toArray,List.getElem?_cons_zero,List.getElem?_cons_succ] at x8;obtain ⟨sz,hs⟩ : ∃ sz,szT (.mk k s lo hi z na nb l) = sz := ⟨_,rfl⟩;have HS := qhid hs;rw [hs] at hmd ⊢
 by_cases h0 : l.length = 0
 ·obtain rfl : l = [] := List.eq_nil_of_length_eq_zero h0;have HR : Hid (sz = 1) := qhid (by rw [<- HS.out,szT,szTs];rfl);have HM := qhid hM;have HG := qhid (grown_refl2 w (some mb));clear hN hmb hM hmd hq hqa hs h0 hl2;simp only [List.length_nil] at x8
  go_enter Tryz.func55,Tryz.ntmps55
  go_wp2_with fail
  go_ret
  exact ⟨by rw [HR.out];rfl,HG.out,HM.out⟩
 ·have hl1 : 0 < l.length := by omega
  obtain ⟨n,hn⟩ : ∃ n,l.length = n + 1 := ⟨l.length - 1,by omega⟩;rw [hn] at x8;obtain ⟨D,hD1,hD2⟩ := hM;have hDI : ∀ p ∈ D,IsC w p.1 := fun p hp => by obtain ⟨u,h1,_⟩ := hD2 p hp;exact IsC_nd h1
  have LK := lookup_sz hD1 (IsC_nd hN) hDI;obtain ⟨v,b,hv⟩ : ∃ v b,gotD D q = (v,b) := ⟨_,_,rfl⟩;rw [hv] at LK
  cases b with
  | true =>
   have HR : Hid (v = sz) := qhid (by
    obtain ⟨u,h1,h2⟩ := hD2 _ (gotD_mem hv)
    rw [<- HS.out,<- h1.uniq hN];exact h2)
   have HM := qhid (show MapS w mb AA from ⟨D,hD1,hD2⟩);have HG := qhid (grown_refl2 w (some mb));clear hN hmb hmd hq hqa hs h0 hl1 hl2 hn hD1 hD2 hDI hv
   go_enter Tryz.func55,Tryz.ntmps55
   go_wp2_with fail
   go_ret
   exact ⟨by rw [<- HR.out];rfl,HG.out,HM.out⟩
  | false =>
   have HMd := qhid (hmd hl1 AA q mb w hN hmb ⟨D,hD1,hD2⟩);have HN := qhid hN;have HMB := qhid hmb;clear hN hmb hmd hq hqa hs h0 hl1 hl2 hn hD1 hD2 hDI hv
   go_enter Tryz.func55,Tryz.ntmps55
   go_wp2_with fail
   refine HMd.out.mono ?_;rintro e w2 ⟨rfl,g2,m2⟩;obtain ⟨D2,hE1,hE2⟩ := m2;have hN2 := HN.out.keep g2 (fun b hb e => HMB.out b hb (Option.some.inj e).symm);obtain ⟨w3,hup,hP3,g3⟩ := update_sz sz hE1 (IsC_nd hN2) (fun p hp => by obtain ⟨u,h1,_⟩ := hE2 p hp;exact IsC_nd h1)
   have HM3 : Hid (MapS w3 mb AA) := qhid ⟨_,hP3,fun p hp => by
    have kp : ∀ u q',NdAt w2 AA u (ndPtr q') -> NdAt w3 AA u (ndPtr q') := fun u q' h => h.keep g3 (fun b hb e => HMB.out b hb (Option.some.inj e).symm)
    rcases mem_putV hp with h | h
    ·obtain ⟨u,h1,h2⟩ := hE2 p h;exact ⟨u,kp _ _ h1,h2⟩
    ·subst h
     exact ⟨_,kp _ _ hN2,HS.out.symm⟩⟩
   have HG3 := qhid (grown_trans g2 g3);clear hE1 hE2 hN2 hP3 g2 g3 LK x8 hxl
   go_wp2_with fail
   go_ret
   exact ⟨rfl,HG3.out,HM3.out⟩
end
end Go.Proofs.YtnmalggmbeipaaaGreatDoor
