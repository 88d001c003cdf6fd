/- A part of the proof. -/
import Derived.Test.YtnmalggmbeipaaaGreatDoorWeI
set_option maxRecDepth 100000
set_option maxHeartbeats 16000000
namespace Go.Proofs.YtnmalggmbeipaaaGreatDoor
section
open Go Go.RowKit
attribute [local go_sem ↓] Go.wp_at_zero Go.wp_at_succ
def wmT (mb q : Nat) (a b : Option Nat) (an av bn bv rn rv : Int) (af al bf bl : Option Nat) (gh : Nat -> Option Nat × Option Nat) : Nat -> Value
 | 0 => .map (some mb)
 | 1 => .pointer (some ⟨q,0,none⟩)
 | 2 => .pointer (some ⟨q,0,none⟩)
 | 3 => .pointer (some ⟨q,6,none⟩)
 | 4 => kPtr a
 | 5 => .agg #[.int .i64 an,.int .i64 av,.map af,.map al]
 | 6 => .map (some mb)
 | 7 => .pointer (some ⟨q,0,none⟩)
 | 8 => .pointer (some ⟨q,0,none⟩)
 | 9 => .pointer (some ⟨q,7,none⟩)
 | 10 => kPtr b
 | 11 => .agg #[.int .i64 bn,.int .i64 bv,.map bf,.map bl]
 | 12 => .agg #[.int .i64 rn,.int .i64 rv,.map (gh 12).1,.map (gh 12).2]
 | 13 => undef
 | _ => undef
theorem wmT_12 {mb q : Nat} {a b : Option Nat} {an av bn bv rn rv : Int} {af al bf bl : Option Nat} {x : Option Nat × Option Nat} {gh : Nat -> Option Nat × Option Nat} {j : Nat} (h : j ≠ 12) : wmT mb q a b an av bn bv rn rv af al bf bl (Reg.updP gh 12 x) j = wmT mb q a b an av bn bv rn rv af al bf bl gh j := by
 unfold wmT
 split <;> first | rfl | exact absurd rfl ‹_›
def wmQ (f1 f2 : Wts) : Nat -> Option Nat × Option Nat -> World -> Prop := fun _ x X => WtAt X (.map x.1) f1 /\ WtAt X (.map x.2) f2
theorem wmQ_up (f1 f2 : Wts) : Reg.UpP (wmQ f1 f2) := fun _ _ _ _ hb h => ⟨h.1.up hb,h.2.up hb⟩
theorem made_cat (w : World) (mb q : Nat) (D : List (Option Nat × Value)) (s : W4) (z : Bool) (a b : Option Nat) (A B : Prt) (hq : w.heap[q]? = some (coOb 2 s z (kPtr a) (kPtr b))) (hk : KnAt w mb D) (ka : IsK w a) (kb : IsK w b)
  (pa : PrtAt w ((vgot D a).getD zeroV) A) (pb : PrtAt w ((vgot D b).getD zeroV) B) (oa : PrtOK A) (ob : PrtOK B) (na : A.places <= 10000) (nb : B.places <= 10000) :
  Calls Tryz.prog 233 #[.map (some mb),.pointer (some ⟨q,0,none⟩)] w fun e w' => PrtTo w w' e (catP A B) := by
 have HP0 := qhid (And.intro pa pb);obtain ⟨af,al,ea,_,_⟩ := pa;obtain ⟨bf,bl,eb,_,_⟩ := pb;obtain ⟨W,hW⟩ : ∃ X,X = w.alloc (prtOb 0 0 none none) := ⟨_,rfl⟩;have hb : Below w.heap.size w W := by rw [hW];exact below1 _ _
 have HR : Hid (W.heap[w.heap.size]? = some (.cells #[.int .i64 0,.int .i64 0,.map none,.map none] 196 (0,0))) := qhid (by rw [hW];exact heap_new _ _);have HQ := qhid (below_kept hb hq);have HKN := qhid (hk.up hb);have HKA := qhid (isK_up ka hb);have HKB := qhid (isK_up kb hb);have HVA := qhid ea;have HVB := qhid eb;have HP : Hid (PrtAt W (.agg #[.int .i64 (A.places : Int),.int .i64 A.void,.map af,.map al]) A /\ PrtAt W (.agg #[.int .i64 (B.places : Int),.int .i64 B.void,.map bf,.map bl]) B) := qhid (by rw [<- ea,<- eb];exact ⟨HP0.out.1.up hb,HP0.out.2.up hb⟩);have HO := qhid (And.intro oa ob);have HN := qhid (And.intro na nb);have HBW := qhid hb;have HW := qhid hW;obtain ⟨c0,_,_⟩ := co_cells (below_kept hb hq);clear HP0 ea eb hb hW hq hk ka kb oa ob na nb
 go_enter Tryz.func233,Tryz.ntmps233
 go_upto_region 1 with fail
 rw [show w.alloc (prtOb 0 0 none none) = W from HW.out.symm]
 go_upto_region 6 with fail
 refine Reg.wp_region_H (wmT mb q a b (A.places : Int) A.void (B.places : Int) B.void ((catP A B).places : Int) (catP A B).void af al bf bl) (Reg.GenH 13 (Reg.MkP W [12] (wmQ (catP A B).first (catP A B).last)) (fun g X => Below w.heap.size w X /\ X.heap[w.heap.size]? = some (.cells #[.int .i64 ((catP A B).places : Int),.int .i64 (catP A B).void,.map (g 12).1,.map (g 12).2] 196 (0,0)) /\ WtAt X (.map (g 12).1) (catP A B).first /\ WtAt X (.map (g 12).2) (catP A B).last)) (fun _ => (none,none)) [0,1,2,3,4,5,6,7,8,9,10,11,12,13] (by rfl) (by kernel_rfl) (by kernel_rfl) ?_ ?_ ?_
 ·exact Reg.GenH.start (Reg.MkP.start _ _)
 ·refine ⟨fun gh listed A_ X hI hcl hin hun hall => ⟨Reg.wanted_none rfl,?_⟩,?_⟩
  ·have e0 := hI.evo (d := 0) (by kernel_rfl) rfl;have hnn := Reg.un_of_reach hcl (n := 13) (i := 0) (by kernel_rfl) (by simpa using hun);have HS := hI.st.ahead hnn;have hX := HS.bel;clear hI hX;have HS2 := qhid HS;clear HS;unfold Reg.Yields
   go_simp
   first | exact Reg.GenH.step hnn (by decide) (fun _ _ => rfl) rfl (HS2.out.up (by simp) (wmQ_up _ _) (Below.refl _ _)) | exact ⟨rfl,Reg.GenH.step hnn (by decide) (fun _ _ => rfl) rfl (HS2.out.up (by simp) (wmQ_up _ _) (Below.refl _ _))⟩
  refine ⟨fun gh listed A_ X hI hcl hin hun hall => ⟨Reg.wanted_none rfl,?_⟩,?_⟩
  ·have e1 := hI.evo (d := 1) (by kernel_rfl) rfl;have hnn := Reg.un_of_reach hcl (n := 13) (i := 1) (by kernel_rfl) (by simpa using hun);have HS := hI.st.ahead hnn;have hX := HS.bel;clear hI hX;have HS2 := qhid HS;clear HS;unfold Reg.Yields
   go_simp
   first | exact Reg.GenH.step hnn (by decide) (fun _ _ => rfl) rfl (HS2.out.up (by simp) (wmQ_up _ _) (Below.refl _ _)) | exact ⟨rfl,Reg.GenH.step hnn (by decide) (fun _ _ => rfl) rfl (HS2.out.up (by simp) (wmQ_up _ _) (Below.refl _ _))⟩
  refine ⟨fun gh listed A_ X hI hcl hin hun hall => ⟨Reg.wanted_none rfl,?_⟩,?_⟩
  ·have e21 : A_.tmps[21]? = some (.pointer (some ⟨q,0,none⟩)) := hI.ev (i := 1) (d := 21) (by rfl) (hall ⟨1,.data⟩ (by simp) rfl);have hnn := Reg.un_of_reach hcl (n := 13) (i := 2) (by kernel_rfl) (by simpa using hun);have HS := hI.st.ahead hnn;have hX := HS.bel;clear hI hX;have HS2 := qhid HS;clear HS;unfold Reg.Yields
   go_simp
   first | exact Reg.GenH.step hnn (by decide) (fun _ _ => rfl) rfl (HS2.out.up (by simp) (wmQ_up _ _) (Below.refl _ _)) | exact ⟨rfl,Reg.GenH.step hnn (by decide) (fun _ _ => rfl) rfl (HS2.out.up (by simp) (wmQ_up _ _) (Below.refl _ _))⟩
  refine ⟨fun gh listed A_ X hI hcl hin hun hall => ⟨Reg.wanted_none rfl,?_⟩,?_⟩
  ·have e22 : A_.tmps[22]? = some (.pointer (some ⟨q,0,none⟩)) := hI.ev (i := 2) (d := 22) (by rfl) (hall ⟨2,.data⟩ (by simp) rfl);have hnn := Reg.un_of_reach hcl (n := 13) (i := 3) (by kernel_rfl) (by simpa using hun);have HS := hI.st.ahead hnn;have hX := HS.bel;clear hI hX;have HS2 := qhid HS;clear HS;unfold Reg.Yields
   go_simp
   first | exact Reg.GenH.step hnn (by decide) (fun _ _ => rfl) rfl (HS2.out.up (by simp) (wmQ_up _ _) (Below.refl _ _)) | exact ⟨rfl,Reg.GenH.step hnn (by decide) (fun _ _ => rfl) rfl (HS2.out.up (by simp) (wmQ_up _ _) (Below.refl _ _))⟩
  refine ⟨fun gh listed A_ X hI hcl hin hun hall => ⟨Reg.wanted_none rfl,?_⟩,?_⟩
  ·have e23 : A_.tmps[23]? = some (.pointer (some ⟨q,6,none⟩)) := hI.ev (i := 3) (d := 23) (by rfl) (hall ⟨3,.data⟩ (by simp) rfl);have hnn := Reg.un_of_reach hcl (n := 13) (i := 4) (by kernel_rfl) (by simpa using hun);have HS := hI.st.ahead hnn;have hX := HS.bel;obtain ⟨c0,c6,c7⟩ := co_cells (Reg.heap_kept_up HQ.out hX);clear hI hX;have HS2 := qhid HS;clear HS;unfold Reg.Yields
   go_simp
   first | exact Reg.GenH.step hnn (by decide) (fun _ _ => rfl) rfl (HS2.out.up (by simp) (wmQ_up _ _) (Below.refl _ _)) | exact ⟨rfl,Reg.GenH.step hnn (by decide) (fun _ _ => rfl) rfl (HS2.out.up (by simp) (wmQ_up _ _) (Below.refl _ _))⟩
  refine ⟨fun gh listed A_ X hI hcl hin hun hall => ⟨Reg.wanted_none rfl,?_⟩,?_⟩
  ·have e20 : A_.tmps[20]? = some (.map (some mb)) := hI.ev (i := 0) (d := 20) (by rfl) (hall ⟨0,.data⟩ (by simp) rfl);have e24 : A_.tmps[24]? = some (kPtr a) := hI.ev (i := 4) (d := 24) (by rfl) (hall ⟨4,.data⟩ (by simp) rfl);have hnn := Reg.un_of_reach hcl (n := 13) (i := 5) (by kernel_rfl) (by simpa using hun);have HS := hI.st.ahead hnn;have hX := HS.bel;have hlk := vlookup_at (HKN.out.up hX).map (isK_up HKA.out hX) (HKN.out.up hX).keys (zeroPart X);rw [HVA.out] at hlk;clear hI hX;have HS2 := qhid HS;clear HS;unfold Reg.Yields
   go_simp
   first | exact Reg.GenH.step hnn (by decide) (fun _ _ => rfl) rfl (HS2.out.up (by simp) (wmQ_up _ _) (Below.refl _ _)) | exact ⟨rfl,Reg.GenH.step hnn (by decide) (fun _ _ => rfl) rfl (HS2.out.up (by simp) (wmQ_up _ _) (Below.refl _ _))⟩
  refine ⟨fun gh listed A_ X hI hcl hin hun hall => ⟨Reg.wanted_none rfl,?_⟩,?_⟩
  ·have e0 := hI.evo (d := 0) (by kernel_rfl) rfl;have hnn := Reg.un_of_reach hcl (n := 13) (i := 6) (by kernel_rfl) (by simpa using hun);have HS := hI.st.ahead hnn;have hX := HS.bel;clear hI hX;have HS2 := qhid HS;clear HS;unfold Reg.Yields
   go_simp
   first | exact Reg.GenH.step hnn (by decide) (fun _ _ => rfl) rfl (HS2.out.up (by simp) (wmQ_up _ _) (Below.refl _ _)) | exact ⟨rfl,Reg.GenH.step hnn (by decide) (fun _ _ => rfl) rfl (HS2.out.up (by simp) (wmQ_up _ _) (Below.refl _ _))⟩
  refine ⟨fun gh listed A_ X hI hcl hin hun hall => ⟨Reg.wanted_none rfl,?_⟩,?_⟩
  ·have e1 := hI.evo (d := 1) (by kernel_rfl) rfl;have hnn := Reg.un_of_reach hcl (n := 13) (i := 7) (by kernel_rfl) (by simpa using hun);have HS := hI.st.ahead hnn;have hX := HS.bel;clear hI hX;have HS2 := qhid HS;clear HS;unfold Reg.Yields
   go_simp
   first | exact Reg.GenH.step hnn (by decide) (fun _ _ => rfl) rfl (HS2.out.up (by simp) (wmQ_up _ _) (Below.refl _ _)) | exact ⟨rfl,Reg.GenH.step hnn (by decide) (fun _ _ => rfl) rfl (HS2.out.up (by simp) (wmQ_up _ _) (Below.refl _ _))⟩
  refine ⟨fun gh listed A_ X hI hcl hin hun hall => ⟨Reg.wanted_none rfl,?_⟩,?_⟩
  ·have e27 : A_.tmps[27]? = some (.pointer (some ⟨q,0,none⟩)) := hI.ev (i := 7) (d := 27) (by rfl) (hall ⟨7,.data⟩ (by simp) rfl);have hnn := Reg.un_of_reach hcl (n := 13) (i := 8) (by kernel_rfl) (by simpa using hun);have HS := hI.st.ahead hnn;have hX := HS.bel;clear hI hX;have HS2 := qhid HS;clear HS;unfold Reg.Yields
   go_simp
   first | exact Reg.GenH.step hnn (by decide) (fun _ _ => rfl) rfl (HS2.out.up (by simp) (wmQ_up _ _) (Below.refl _ _)) | exact ⟨rfl,Reg.GenH.step hnn (by decide) (fun _ _ => rfl) rfl (HS2.out.up (by simp) (wmQ_up _ _) (Below.refl _ _))⟩
  refine ⟨fun gh listed A_ X hI hcl hin hun hall => ⟨Reg.wanted_none rfl,?_⟩,?_⟩
  ·have e28 : A_.tmps[28]? = some (.pointer (some ⟨q,0,none⟩)) := hI.ev (i := 8) (d := 28) (by rfl) (hall ⟨8,.data⟩ (by simp) rfl);have hnn := Reg.un_of_reach hcl (n := 13) (i := 9) (by kernel_rfl) (by simpa using hun);have HS := hI.st.ahead hnn;have hX := HS.bel;clear hI hX;have HS2 := qhid HS;clear HS;unfold Reg.Yields
   go_simp
   first | exact Reg.GenH.step hnn (by decide) (fun _ _ => rfl) rfl (HS2.out.up (by simp) (wmQ_up _ _) (Below.refl _ _)) | exact ⟨rfl,Reg.GenH.step hnn (by decide) (fun _ _ => rfl) rfl (HS2.out.up (by simp) (wmQ_up _ _) (Below.refl _ _))⟩
  refine ⟨fun gh listed A_ X hI hcl hin hun hall => ⟨Reg.wanted_none rfl,?_⟩,?_⟩
  ·have e29 : A_.tmps[29]? = some (.pointer (some ⟨q,7,none⟩)) := hI.ev (i := 9) (d := 29) (by rfl) (hall ⟨9,.data⟩ (by simp) rfl);have hnn := Reg.un_of_reach hcl (n := 13) (i := 10) (by kernel_rfl) (by simpa using hun);have HS := hI.st.ahead hnn;have hX := HS.bel;obtain ⟨c0,c6,c7⟩ := co_cells (Reg.heap_kept_up HQ.out hX);clear hI hX;have HS2 := qhid HS;clear HS;unfold Reg.Yields
   go_simp
   first | exact Reg.GenH.step hnn (by decide) (fun _ _ => rfl) rfl (HS2.out.up (by simp) (wmQ_up _ _) (Below.refl _ _)) | exact ⟨rfl,Reg.GenH.step hnn (by decide) (fun _ _ => rfl) rfl (HS2.out.up (by simp) (wmQ_up _ _) (Below.refl _ _))⟩
  refine ⟨fun gh listed A_ X hI hcl hin hun hall => ⟨Reg.wanted_none rfl,?_⟩,?_⟩
  ·have e26 : A_.tmps[26]? = some (.map (some mb)) := hI.ev (i := 6) (d := 26) (by rfl) (hall ⟨6,.data⟩ (by simp) rfl);have e30 : A_.tmps[30]? = some (kPtr b) := hI.ev (i := 10) (d := 30) (by rfl) (hall ⟨10,.data⟩ (by simp) rfl);have hnn := Reg.un_of_reach hcl (n := 13) (i := 11) (by kernel_rfl) (by simpa using hun);have HS := hI.st.ahead hnn;have hX := HS.bel;have hlk := vlookup_at (HKN.out.up hX).map (isK_up HKB.out hX) (HKN.out.up hX).keys (zeroPart X);rw [HVB.out] at hlk;clear hI hX;have HS2 := qhid HS;clear HS;unfold Reg.Yields
   go_simp
   first | exact Reg.GenH.step hnn (by decide) (fun _ _ => rfl) rfl (HS2.out.up (by simp) (wmQ_up _ _) (Below.refl _ _)) | exact ⟨rfl,Reg.GenH.step hnn (by decide) (fun _ _ => rfl) rfl (HS2.out.up (by simp) (wmQ_up _ _) (Below.refl _ _))⟩
  refine ⟨fun gh listed A_ X hI hcl hin hun hall => ⟨Reg.wanted_none rfl,?_⟩,?_⟩
  ·have e25 : A_.tmps[25]? = some (.agg #[.int .i64 (A.places : Int),.int .i64 A.void,.map af,.map al]) := hI.ev (i := 5) (d := 25) (by rfl) (hall ⟨5,.data⟩ (by simp) rfl);have e31 : A_.tmps[31]? = some (.agg #[.int .i64 (B.places : Int),.int .i64 B.void,.map bf,.map bl]) := hI.ev (i := 11) (d := 31) (by rfl) (hall ⟨11,.data⟩ (by simp) rfl);have hnn := Reg.un_of_reach hcl (n := 13) (i := 12) (by kernel_rfl) (by simpa using hun);have HS := hI.st.ahead hnn;have hX := HS.bel;have HM := qhid (cat_any X A B _ _ (HP.out.1.up hX) (HP.out.2.up hX) HO.out.1 HO.out.2 HN.out.1 HN.out.2);clear hI hX;have HS2 := qhid HS;clear HS;unfold Reg.Yields
   go_simp
   refine HM.out.mono ?_;rintro e w2 ⟨m',k',he,hv,hk,hb⟩;exact ⟨_,he,Reg.GenH.step (g' := Reg.updP gh 12 (m',k')) hnn (by decide) (fun j hj => wmT_12 (fun e => by rw [e] at hj;rw [hj] at hun;cases hun)) rfl (HS2.out.new _ (wmQ_up _ _) hb ⟨hv,hk⟩)⟩
  refine ⟨fun gh listed A_ X hI hcl hin hun hall => ⟨Reg.wanted_none rfl,?_⟩,?_⟩
  ·have e4 := hI.evo (d := 4) (by kernel_rfl) rfl;have e32 : A_.tmps[32]? = some (.agg #[.int .i64 ((catP A B).places : Int),.int .i64 (catP A B).void,.map (gh 12).1,.map (gh 12).2]) := hI.ev (i := 12) (d := 32) (by rfl) (hall ⟨12,.data⟩ (by simp) rfl);have hnn : listed.getD 13 false = false := by simpa using hun
   have HS := hI.st.ahead hnn;have hX := HS.bel;have h1 := HS.at_ 12 (by simp) (hall ⟨12,.data⟩ (by simp) rfl);have HH1 : Hid (WtAt X (.map (gh 12).1) (catP A B).first /\ WtAt X (.map (gh 12).2) (catP A B).last) := qhid h1;obtain ⟨c0,c1,c2,c3⟩ := prt_cells (Reg.heap_kept_up HR.out hX);obtain ⟨f0,f1,f2,f3⟩ := prt_unfrozen (Reg.heap_kept_up HR.out hX);have HRX := qhid (Reg.heap_kept_up HR.out hX);clear h1;clear hI hX;have HS2 := qhid HS;clear HS;unfold Reg.Yields
   go_simp
   have hbb := put4_below (HBW.out.trans (HS2.out.bel.mono HBW.out.size)) (b := w.heap.size) (jN _) (.int .i64 ((catP A B).places : Int)) (.int .i64 (catP A B).void) (.map (gh 12).1) (.map (gh 12).2);have hpp := put4_at HRX.out (.int .i64 ((catP A B).places : Int)) (.int .i64 (catP A B).void) (.map (gh 12).1) (.map (gh 12).2);exact Reg.GenH.put hin rfl ⟨hbb,hpp,wt_put4 HH1.out.1 HRX.out _ _ _ _,wt_put4 HH1.out.2 HRX.out _ _ _ _⟩
  trivial
 ·intro gh X hS;obtain ⟨h1,h2,h3,h4⟩ := hS.done (by rfl);clear hS;have H1 := qhid h1;obtain ⟨c0,c1,c2,c3⟩ := prt_cells h2;have H3 := qhid h3;have H4 := qhid h4;clear h1 h2 h3 h4;simp [Reg.finalTmps,Reg.dstAt,Reg.valOf,wmT]
  go_wp2_with fail
  exact bodyPost_ret (v := .agg #[.int .i64 ((catP A B).places : Int),.int .i64 (catP A B).void,.map (gh 12).1,.map (gh 12).2]) (by simp [results,Tryz.results233,go_sem,c0,c1,c2,c3]) rfl ⟨(gh 12).1,(gh 12).2,rfl,H3.out,H4.out,H1.out⟩
theorem made_alt (w : World) (mb q : Nat) (D : List (Option Nat × Value)) (s : W4) (z : Bool) (a b : Option Nat) (A B : Prt) (hq : w.heap[q]? = some (coOb 3 s z (kPtr a) (kPtr b))) (hk : KnAt w mb D) (ka : IsK w a) (kb : IsK w b)
  (pa : PrtAt w ((vgot D a).getD zeroV) A) (pb : PrtAt w ((vgot D b).getD zeroV) B) (oa : PrtOK A) (ob : PrtOK B) (na : A.places <= 10000) (nb : B.places <= 10000) :
  Calls Tryz.prog 233 #[.map (some mb),.pointer (some ⟨q,0,none⟩)] w fun e w' => PrtTo w w' e (altP A B) := by
 have HP0 := qhid (And.intro pa pb);obtain ⟨af,al,ea,_,_⟩ := pa;obtain ⟨bf,bl,eb,_,_⟩ := pb;obtain ⟨W,hW⟩ : ∃ X,X = w.alloc (prtOb 0 0 none none) := ⟨_,rfl⟩;have hb : Below w.heap.size w W := by rw [hW];exact below1 _ _
 have HR : Hid (W.heap[w.heap.size]? = some (.cells #[.int .i64 0,.int .i64 0,.map none,.map none] 196 (0,0))) := qhid (by rw [hW];exact heap_new _ _);have HQ := qhid (below_kept hb hq);have HKN := qhid (hk.up hb);have HKA := qhid (isK_up ka hb);have HKB := qhid (isK_up kb hb);have HVA := qhid ea;have HVB := qhid eb;have HP : Hid (PrtAt W (.agg #[.int .i64 (A.places : Int),.int .i64 A.void,.map af,.map al]) A /\ PrtAt W (.agg #[.int .i64 (B.places : Int),.int .i64 B.void,.map bf,.map bl]) B) := qhid (by rw [<- ea,<- eb];exact ⟨HP0.out.1.up hb,HP0.out.2.up hb⟩);have HO := qhid (And.intro oa ob);have HN := qhid (And.intro na nb);have HBW := qhid hb;have HW := qhid hW;obtain ⟨c0,_,_⟩ := co_cells (below_kept hb hq);clear HP0 ea eb hb hW hq hk ka kb oa ob na nb
 go_enter Tryz.func233,Tryz.ntmps233
 go_upto_region 1 with fail
 rw [show w.alloc (prtOb 0 0 none none) = W from HW.out.symm]
 go_upto_region 8 with fail
 refine Reg.wp_region_H (wmT mb q a b (A.places : Int) A.void (B.places : Int) B.void ((altP A B).places : Int) (altP A B).void af al bf bl) (Reg.GenH 13 (Reg.MkP W [12] (wmQ (altP A B).first (altP A B).last)) (fun g X => Below w.heap.size w X /\ X.heap[w.heap.size]? = some (.cells #[.int .i64 ((altP A B).places : Int),.int .i64 (altP A B).void,.map (g 12).1,.map (g 12).2] 196 (0,0)) /\ WtAt X (.map (g 12).1) (altP A B).first /\ WtAt X (.map (g 12).2) (altP A B).last)) (fun _ => (none,none)) [0,1,2,3,4,5,6,7,8,9,10,11,12,13] (by rfl) (by kernel_rfl) (by kernel_rfl) ?_ ?_ ?_
 ·exact Reg.GenH.start (Reg.MkP.start _ _)
 ·refine ⟨fun gh listed A_ X hI hcl hin hun hall => ⟨Reg.wanted_none rfl,?_⟩,?_⟩
  ·have e0 := hI.evo (d := 0) (by kernel_rfl) rfl;have hnn := Reg.un_of_reach hcl (n := 13) (i := 0) (by kernel_rfl) (by simpa using hun);have HS := hI.st.ahead hnn;have hX := HS.bel;clear hI hX;have HS2 := qhid HS;clear HS;unfold Reg.Yields
   go_simp
   first | exact Reg.GenH.step hnn (by decide) (fun _ _ => rfl) rfl (HS2.out.up (by simp) (wmQ_up _ _) (Below.refl _ _)) | exact ⟨rfl,Reg.GenH.step hnn (by decide) (fun _ _ => rfl) rfl (HS2.out.up (by simp) (wmQ_up _ _) (Below.refl _ _))⟩
  refine ⟨fun gh listed A_ X hI hcl hin hun hall => ⟨Reg.wanted_none rfl,?_⟩,?_⟩
  ·have e1 := hI.evo (d := 1) (by kernel_rfl) rfl;have hnn := Reg.un_of_reach hcl (n := 13) (i := 1) (by kernel_rfl) (by simpa using hun);have HS := hI.st.ahead hnn;have hX := HS.bel;clear hI hX;have HS2 := qhid HS;clear HS;unfold Reg.Yields
   go_simp
   first | exact Reg.GenH.step hnn (by decide) (fun _ _ => rfl) rfl (HS2.out.up (by simp) (wmQ_up _ _) (Below.refl _ _)) | exact ⟨rfl,Reg.GenH.step hnn (by decide) (fun _ _ => rfl) rfl (HS2.out.up (by simp) (wmQ_up _ _) (Below.refl _ _))⟩
  refine ⟨fun gh listed A_ X hI hcl hin hun hall => ⟨Reg.wanted_none rfl,?_⟩,?_⟩
  ·have e36 : A_.tmps[36]? = some (.pointer (some ⟨q,0,none⟩)) := hI.ev (i := 1) (d := 36) (by rfl) (hall ⟨1,.data⟩ (by simp) rfl);have hnn := Reg.un_of_reach hcl (n := 13) (i := 2) (by kernel_rfl) (by simpa using hun);have HS := hI.st.ahead hnn;have hX := HS.bel;clear hI hX;have HS2 := qhid HS;clear HS;unfold Reg.Yields
   go_simp
   first | exact Reg.GenH.step hnn (by decide) (fun _ _ => rfl) rfl (HS2.out.up (by simp) (wmQ_up _ _) (Below.refl _ _)) | exact ⟨rfl,Reg.GenH.step hnn (by decide) (fun _ _ => rfl) rfl (HS2.out.up (by simp) (wmQ_up _ _) (Below.refl _ _))⟩
  refine ⟨fun gh listed A_ X hI hcl hin hun hall => ⟨Reg.wanted_none rfl,?_⟩,?_⟩
  ·have e37 : A_.tmps[37]? = some (.pointer (some ⟨q,0,none⟩)) := hI.ev (i := 2) (d := 37) (by rfl) (hall ⟨2,.data⟩ (by simp) rfl);have hnn := Reg.un_of_reach hcl (n := 13) (i := 3) (by kernel_rfl) (by simpa using hun);have HS := hI.st.ahead hnn;have hX := HS.bel;clear hI hX;have HS2 := qhid HS;clear HS;unfold Reg.Yields
   go_simp
   first | exact Reg.GenH.step hnn (by decide) (fun _ _ => rfl) rfl (HS2.out.up (by simp) (wmQ_up _ _) (Below.refl _ _)) | exact ⟨rfl,Reg.GenH.step hnn (by decide) (fun _ _ => rfl) rfl (HS2.out.up (by simp) (wmQ_up _ _) (Below.refl _ _))⟩
  refine ⟨fun gh listed A_ X hI hcl hin hun hall => ⟨Reg.wanted_none rfl,?_⟩,?_⟩
  ·have e38 : A_.tmps[38]? = some (.pointer (some ⟨q,6,none⟩)) := hI.ev (i := 3) (d := 38) (by rfl) (hall ⟨3,.data⟩ (by simp) rfl);have hnn := Reg.un_of_reach hcl (n := 13) (i := 4) (by kernel_rfl) (by simpa using hun);have HS := hI.st.ahead hnn;have hX := HS.bel;obtain ⟨c0,c6,c7⟩ := co_cells (Reg.heap_kept_up HQ.out hX);clear hI hX;have HS2 := qhid HS;clear HS;unfold Reg.Yields
   go_simp
   first | exact Reg.GenH.step hnn (by decide) (fun _ _ => rfl) rfl (HS2.out.up (by simp) (wmQ_up _ _) (Below.refl _ _)) | exact ⟨rfl,Reg.GenH.step hnn (by decide) (fun _ _ => rfl) rfl (HS2.out.up (by simp) (wmQ_up _ _) (Below.refl _ _))⟩
  refine ⟨fun gh listed A_ X hI hcl hin hun hall => ⟨Reg.wanted_none rfl,?_⟩,?_⟩
  ·have e35 : A_.tmps[35]? = some (.map (some mb)) := hI.ev (i := 0) (d := 35) (by rfl) (hall ⟨0,.data⟩ (by simp) rfl);have e39 : A_.tmps[39]? = some (kPtr a) := hI.ev (i := 4) (d := 39) (by rfl) (hall ⟨4,.data⟩ (by simp) rfl);have hnn := Reg.un_of_reach hcl (n := 13) (i := 5) (by kernel_rfl) (by simpa using hun);have HS := hI.st.ahead hnn;have hX := HS.bel;have hlk := vlookup_at (HKN.out.up hX).map (isK_up HKA.out hX) (HKN.out.up hX).keys (zeroPart X);rw [HVA.out] at hlk;clear hI hX;have HS2 := qhid HS;clear HS;unfold Reg.Yields
   go_simp
   first | exact Reg.GenH.step hnn (by decide) (fun _ _ => rfl) rfl (HS2.out.up (by simp) (wmQ_up _ _) (Below.refl _ _)) | exact ⟨rfl,Reg.GenH.step hnn (by decide) (fun _ _ => rfl) rfl (HS2.out.up (by simp) (wmQ_up _ _) (Below.refl _ _))⟩
  refine ⟨fun gh listed A_ X hI hcl hin hun hall => ⟨Reg.wanted_none rfl,?_⟩,?_⟩
  ·have e0 := hI.evo (d := 0) (by kernel_rfl) rfl;have hnn := Reg.un_of_reach hcl (n := 13) (i := 6) (by kernel_rfl) (by simpa using hun);have HS := hI.st.ahead hnn;have hX := HS.bel;clear hI hX;have HS2 := qhid HS;clear HS;unfold Reg.Yields
   go_simp
   first | exact Reg.GenH.step hnn (by decide) (fun _ _ => rfl) rfl (HS2.out.up (by simp) (wmQ_up _ _) (Below.refl _ _)) | exact ⟨rfl,Reg.GenH.step hnn (by decide) (fun _ _ => rfl) rfl (HS2.out.up (by simp) (wmQ_up _ _) (Below.refl _ _))⟩
  refine ⟨fun gh listed A_ X hI hcl hin hun hall => ⟨Reg.wanted_none rfl,?_⟩,?_⟩
  ·have e1 := hI.evo (d := 1) (by kernel_rfl) rfl;have hnn := Reg.un_of_reach hcl (n := 13) (i := 7) (by kernel_rfl) (by simpa using hun);have HS := hI.st.ahead hnn;have hX := HS.bel;clear hI hX;have HS2 := qhid HS;clear HS;unfold Reg.Yields
   go_simp
   first | exact Reg.GenH.step hnn (by decide) (fun _ _ => rfl) rfl (HS2.out.up (by simp) (wmQ_up _ _) (Below.refl _ _)) | exact ⟨rfl,Reg.GenH.step hnn (by decide) (fun _ _ => rfl) rfl (HS2.out.up (by simp) (wmQ_up _ _) (Below.refl _ _))⟩
  refine ⟨fun gh listed A_ X hI hcl hin hun hall => ⟨Reg.wanted_none rfl,?_⟩,?_⟩
  ·have e42 : A_.tmps[42]? = some (.pointer (some ⟨q,0,none⟩)) := hI.ev (i := 7) (d := 42) (by rfl) (hall ⟨7,.data⟩ (by simp) rfl);have hnn := Reg.un_of_reach hcl (n := 13) (i := 8) (by kernel_rfl) (by simpa using hun);have HS := hI.st.ahead hnn;have hX := HS.bel;clear hI hX;have HS2 := qhid HS;clear HS;unfold Reg.Yields
   go_simp
   first | exact Reg.GenH.step hnn (by decide) (fun _ _ => rfl) rfl (HS2.out.up (by simp) (wmQ_up _ _) (Below.refl _ _)) | exact ⟨rfl,Reg.GenH.step hnn (by decide) (fun _ _ => rfl) rfl (HS2.out.up (by simp) (wmQ_up _ _) (Below.refl _ _))⟩
  refine ⟨fun gh listed A_ X hI hcl hin hun hall => ⟨Reg.wanted_none rfl,?_⟩,?_⟩
  ·have e43 : A_.tmps[43]? = some (.pointer (some ⟨q,0,none⟩)) := hI.ev (i := 8) (d := 43) (by rfl) (hall ⟨8,.data⟩ (by simp) rfl);have hnn := Reg.un_of_reach hcl (n := 13) (i := 9) (by kernel_rfl) (by simpa using hun);have HS := hI.st.ahead hnn;have hX := HS.bel;clear hI hX;have HS2 := qhid HS;clear HS;unfold Reg.Yields
   go_simp
   first | exact Reg.GenH.step hnn (by decide) (fun _ _ => rfl) rfl (HS2.out.up (by simp) (wmQ_up _ _) (Below.refl _ _)) | exact ⟨rfl,Reg.GenH.step hnn (by decide) (fun _ _ => rfl) rfl (HS2.out.up (by simp) (wmQ_up _ _) (Below.refl _ _))⟩
  refine ⟨fun gh listed A_ X hI hcl hin hun hall => ⟨Reg.wanted_none rfl,?_⟩,?_⟩
  ·have e44 : A_.tmps[44]? = some (.pointer (some ⟨q,7,none⟩)) := hI.ev (i := 9) (d := 44) (by rfl) (hall ⟨9,.data⟩ (by simp) rfl);have hnn := Reg.un_of_reach hcl (n := 13) (i := 10) (by kernel_rfl) (by simpa using hun);have HS := hI.st.ahead hnn;have hX := HS.bel;obtain ⟨c0,c6,c7⟩ := co_cells (Reg.heap_kept_up HQ.out hX);clear hI hX;have HS2 := qhid HS;clear HS;unfold Reg.Yields
   go_simp
   first | exact Reg.GenH.step hnn (by decide) (fun _ _ => rfl) rfl (HS2.out.up (by simp) (wmQ_up _ _) (Below.refl _ _)) | exact ⟨rfl,Reg.GenH.step hnn (by decide) (fun _ _ => rfl) rfl (HS2.out.up (by simp) (wmQ_up _ _) (Below.refl _ _))⟩
  refine ⟨fun gh listed A_ X hI hcl hin hun hall => ⟨Reg.wanted_none rfl,?_⟩,?_⟩
  ·have e41 : A_.tmps[41]? = some (.map (some mb)) := hI.ev (i := 6) (d := 41) (by rfl) (hall ⟨6,.data⟩ (by simp) rfl);have e45 : A_.tmps[45]? = some (kPtr b) := hI.ev (i := 10) (d := 45) (by rfl) (hall ⟨10,.data⟩ (by simp) rfl);have hnn := Reg.un_of_reach hcl (n := 13) (i := 11) (by kernel_rfl) (by simpa using hun);have HS := hI.st.ahead hnn;have hX := HS.bel;have hlk := vlookup_at (HKN.out.up hX).map (isK_up HKB.out hX) (HKN.out.up hX).keys (zeroPart X);rw [HVB.out] at hlk;clear hI hX;have HS2 := qhid HS;clear HS;unfold Reg.Yields
   go_simp
   first | exact Reg.GenH.step hnn (by decide) (fun _ _ => rfl) rfl (HS2.out.up (by simp) (wmQ_up _ _) (Below.refl _ _)) | exact ⟨rfl,Reg.GenH.step hnn (by decide) (fun _ _ => rfl) rfl (HS2.out.up (by simp) (wmQ_up _ _) (Below.refl _ _))⟩
  refine ⟨fun gh listed A_ X hI hcl hin hun hall => ⟨Reg.wanted_none rfl,?_⟩,?_⟩
  ·have e40 : A_.tmps[40]? = some (.agg #[.int .i64 (A.places : Int),.int .i64 A.void,.map af,.map al]) := hI.ev (i := 5) (d := 40) (by rfl) (hall ⟨5,.data⟩ (by simp) rfl);have e46 : A_.tmps[46]? = some (.agg #[.int .i64 (B.places : Int),.int .i64 B.void,.map bf,.map bl]) := hI.ev (i := 11) (d := 46) (by rfl) (hall ⟨11,.data⟩ (by simp) rfl);have hnn := Reg.un_of_reach hcl (n := 13) (i := 12) (by kernel_rfl) (by simpa using hun);have HS := hI.st.ahead hnn;have hX := HS.bel;have HM := qhid (alt_any X A B _ _ (HP.out.1.up hX) (HP.out.2.up hX) HO.out.1 HO.out.2 HN.out.1 HN.out.2);clear hI hX;have HS2 := qhid HS;clear HS;unfold Reg.Yields
   go_simp
   refine HM.out.mono ?_;rintro e w2 ⟨m',k',he,hv,hk,hb⟩;exact ⟨_,he,Reg.GenH.step (g' := Reg.updP gh 12 (m',k')) hnn (by decide) (fun j hj => wmT_12 (fun e => by rw [e] at hj;rw [hj] at hun;cases hun)) rfl (HS2.out.new _ (wmQ_up _ _) hb ⟨hv,hk⟩)⟩
  refine ⟨fun gh listed A_ X hI hcl hin hun hall => ⟨Reg.wanted_none rfl,?_⟩,?_⟩
  ·have e4 := hI.evo (d := 4) (by kernel_rfl) rfl;have e47 : A_.tmps[47]? = some (.agg #[.int .i64 ((altP A B).places : Int),.int .i64 (altP A B).void,.map (gh 12).1,.map (gh 12).2]) := hI.ev (i := 12) (d := 47) (by rfl) (hall ⟨12,.data⟩ (by simp) rfl);have hnn : listed.getD 13 false = false := by simpa using hun
   have HS := hI.st.ahead hnn;have hX := HS.bel;have h1 := HS.at_ 12 (by simp) (hall ⟨12,.data⟩ (by simp) rfl);have HH1 : Hid (WtAt X (.map (gh 12).1) (altP A B).first /\ WtAt X (.map (gh 12).2) (altP A B).last) := qhid h1;obtain ⟨c0,c1,c2,c3⟩ := prt_cells (Reg.heap_kept_up HR.out hX);obtain ⟨f0,f1,f2,f3⟩ := prt_unfrozen (Reg.heap_kept_up HR.out hX);have HRX := qhid (Reg.heap_kept_up HR.out hX);clear h1;clear hI hX;have HS2 := qhid HS;clear HS;unfold Reg.Yields
   go_simp
   have hbb := put4_below (HBW.out.trans (HS2.out.bel.mono HBW.out.size)) (b := w.heap.size) (jN _) (.int .i64 ((altP A B).places : Int)) (.int .i64 (altP A B).void) (.map (gh 12).1) (.map (gh 12).2);have hpp := put4_at HRX.out (.int .i64 ((altP A B).places : Int)) (.int .i64 (altP A B).void) (.map (gh 12).1) (.map (gh 12).2);exact Reg.GenH.put hin rfl ⟨hbb,hpp,wt_put4 HH1.out.1 HRX.out _ _ _ _,wt_put4 HH1.out.2 HRX.out _ _ _ _⟩
  trivial
 ·intro gh X hS;obtain ⟨h1,h2,h3,h4⟩ := hS.done (by rfl);clear hS;have H1 := qhid h1;obtain ⟨c0,c1,c2,c3⟩ := prt_cells h2;have H3 := qhid h3;have H4 := qhid h4;clear h1 h2 h3 h4;simp [Reg.finalTmps,Reg.dstAt,Reg.valOf,wmT]
  go_wp2_with fail
  exact bodyPost_ret (v := .agg #[.int .i64 ((altP A B).places : Int),.int .i64 (altP A B).void,.map (gh 12).1,.map (gh 12).2]) (by simp [results,Tryz.results233,go_sem,c0,c1,c2,c3]) rfl ⟨(gh 12).1,(gh 12).2,rfl,H3.out,H4.out,H1.out⟩
theorem made_empty (w : World) (mb q : Nat) (k : Int) (hc : w.cell? ⟨q,0,none⟩ = some (.int .i64 k)) (hq : q < w.heap.size) (hk : k = 0) :
  Calls Tryz.prog 233 #[.map (some mb),.pointer (some ⟨q,0,none⟩)] w fun e w' => PrtTo w w' e ⟨0,1,noneW,noneW⟩ := by
 subst hk;obtain ⟨W,hW⟩ : ∃ X,X = w.alloc (prtOb 0 0 none none) := ⟨_,rfl⟩;have hb : Below w.heap.size w W := by rw [hW];exact below1 _ _
 have hr : W.heap[w.heap.size]? = some (.cells #[.int .i64 0,.int .i64 0,.map none,.map none] 196 (0,0)) := by rw [hW];exact heap_new _ _
 have hc' : W.cell? ⟨q,0,none⟩ = some (.int .i64 0) := (World.cell?_of_block (w := w) (a := ⟨q,0,none⟩) (hb.block q hq)).trans hc;obtain ⟨d0,d1,d2,d3⟩ := prt_cells hr;obtain ⟨f0,f1,f2,f3⟩ := prt_unfrozen hr;have HP := qhid (put4_at hr (.int .i64 0) (.int .i64 1) (.map none) (.map none));have HB := qhid (put4_below hb (jN _) (.int .i64 0) (.int .i64 1) (.map none) (.map none));have HW := qhid hW;clear hb hr hW hc
 go_enter Tryz.func233,Tryz.ntmps233
 go_upto_region 1 with fail
 rw [show w.alloc (prtOb 0 0 none none) = W from HW.out.symm]
 go_wp2_with fail
 obtain ⟨c0,c1,c2,c3⟩ := prt_cells HP.out;exact bodyPost_ret (v := .agg #[.int .i64 0,.int .i64 1,.map none,.map none]) (by simp [results,Tryz.results233,go_sem,c0,c1,c2,c3]) rfl ⟨none,none,rfl,.none,.none,HB.out⟩
theorem made_set (w : World) (mb q : Nat) (hc : w.cell? ⟨q,0,none⟩ = some (.int .i64 1)) (hq : q < w.heap.size) :
  Calls Tryz.prog 233 #[.map (some mb),.pointer (some ⟨q,0,none⟩)] w fun e w' => PrtTo w w' e ⟨1,0,unitW,unitW⟩ := by
 obtain ⟨W,hW⟩ : ∃ X,X = w.alloc (prtOb 0 0 none none) := ⟨_,rfl⟩;have hb : Below w.heap.size w W := by rw [hW];exact below1 _ _
 have hr : W.heap[w.heap.size]? = some (.cells #[.int .i64 0,.int .i64 0,.map none,.map none] 196 (0,0)) := by rw [hW];exact heap_new _ _
 have hc' : W.cell? ⟨q,0,none⟩ = some (.int .i64 1) := (World.cell?_of_block (w := w) (a := ⟨q,0,none⟩) (hb.block q hq)).trans hc;obtain ⟨D,hown,hd⟩ := wt_made W;have hds : Maps.size D = 0 := (owns_none hown hd).2 rfl;obtain ⟨Y,hup,hY,hgY⟩ := wt_put hown 0 0 1 (by omega) rfl ⟨by omega,by unfold top;omega⟩ (by omega);have hbY : Below w.heap.size w Y := below_grown (hb.trans ((below1 W (.map #[] 0)).mono hb.size)) hgY hb.size;have hsz : W.heap.size = w.heap.size + 1 := by rw [hW];simp
 have hrY : Y.heap[w.heap.size]? = some (.cells #[.int .i64 0,.int .i64 0,.map none,.map none] 196 (0,0)) := (hgY.block w.heap.size (by rw [World.size_alloc];omega) (fun e => by have := Option.some.inj e;omega)).trans (Reg.heap_kept_up hr (below1 W _))
 have hu : WtB Y W.heap.size unitW := by
  refine ⟨_,owns_tight hY,?_⟩;have e : unitW = updW noneW 0 1 := by funext p;rfl
  rw [e];exact hd.put hown.isMap 0 (by decide)
 obtain ⟨d0,d1,d2,d3⟩ := prt_cells hrY;obtain ⟨f0,f1,f2,f3⟩ := prt_unfrozen hrY;have HP := qhid (put4_at hrY (.int .i64 1) (.int .i64 0) (.map (some W.heap.size)) (.map (some W.heap.size)));have HB := qhid (put4_below hbY (jN _) (.int .i64 1) (.int .i64 0) (.map (some W.heap.size)) (.map (some W.heap.size)));have HU := qhid (wt_put4 (hu.at_ (fun e => by have := congrFun e 0;cases this)) hrY (.int .i64 1) (.int .i64 0) (.map (some W.heap.size)) (.map (some W.heap.size)));have HW := qhid hW;have hmm := @run_makeMap Tryz.prog;clear hb hr hrY hW hc hu hbY hgY hY hd hown hds hsz
 go_enter Tryz.func233,Tryz.ntmps233
 go_upto_region 1 with fail
 rw [show w.alloc (prtOb 0 0 none none) = W from HW.out.symm]
 go_wp2_with fail
 obtain ⟨c0,c1,c2,c3⟩ := prt_cells HP.out;exact bodyPost_ret (v := .agg #[.int .i64 1,.int .i64 0,.map (some W.heap.size),.map (some W.heap.size)]) (by simp [results,Tryz.results233,go_sem,c0,c1,c2,c3]) rfl ⟨some W.heap.size,some W.heap.size,rfl,HU.out,HU.out,HB.out⟩
theorem made_star (w : World) (mb q : Nat) (D : List (Option Nat × Value)) (s : W4) (z : Bool) (a : Option Nat) (vb : Value) (A : Prt) (hq : w.heap[q]? = some (coOb 4 s z (kPtr a) vb)) (hk : KnAt w mb D) (ka : IsK w a)
  (pa : PrtAt w ((vgot D a).getD zeroV) A) :
  Calls Tryz.prog 233 #[.map (some mb),.pointer (some ⟨q,0,none⟩)] w fun e w' => PrtTo w w' e ⟨A.places,1,A.first,A.last⟩ := by
 obtain ⟨af,al,ea,h1,h2⟩ := pa;obtain ⟨W,hW⟩ : ∃ X,X = w.alloc (prtOb 0 0 none none) := ⟨_,rfl⟩;have hb : Below w.heap.size w W := by rw [hW];exact below1 _ _
 have hr : W.heap[w.heap.size]? = some (.cells #[.int .i64 0,.int .i64 0,.map none,.map none] 196 (0,0)) := by rw [hW];exact heap_new _ _
 obtain ⟨c0,c6,c7⟩ := co_cells (below_kept hb hq);have hlk := vlookup_at (hk.up hb).map (isK_up ka hb) (hk.up hb).keys (zeroPart W);rw [ea] at hlk;unfold kPtr at hlk c6;obtain ⟨n,hn⟩ : ∃ n,n = A.places := ⟨_,rfl⟩;obtain ⟨v,hv⟩ : ∃ v,v = A.void := ⟨_,rfl⟩;rw [<- hn,<- hv] at hlk;have HW := qhid hW;have HN := qhid hn;have H12 := qhid (And.intro h1 h2);have HB := qhid hb;have HR := qhid hr;have hsz : W.heap.size = w.heap.size + 1 := by rw [hW];simp
 clear hb hr hW hq h1 h2 hk ka ea hn hv
 go_enter Tryz.func233,Tryz.ntmps233
 go_upto_region 1 with fail
 rw [show w.alloc (prtOb 0 0 none none) = W from HW.out.symm]
 go_upto_region 12 with fail
 obtain ⟨W2,hW2⟩ : ∃ X,X = W.alloc (prtOb (n : Int) 1 af al) := ⟨_,rfl⟩;rw [show W.alloc (prtOb (n : Int) 1 af al) = W2 from hW2.symm];have hb2 : Below W.heap.size W W2 := by rw [hW2];exact below1 _ _
 have hr2 := Reg.heap_kept_up HR.out hb2;have hn2 : W2.heap[w.heap.size + 1]? = some (.cells #[.int .i64 (n : Int),.int .i64 1,.map af,.map al] 196 (0,0)) := by rw [hW2,<- hsz];exact heap_new _ _
 obtain ⟨d0,d1,d2,d3⟩ := prt_cells hr2;obtain ⟨f0,f1,f2,f3⟩ := prt_unfrozen hr2;obtain ⟨g0,g1,g2,g3⟩ := prt_cells hn2;have HB2 := qhid (HB.out.trans (hb2.mono HB.out.size));have HP := qhid (put4_at hr2 (.int .i64 (n : Int)) (.int .i64 1) (.map af) (.map al));have HPB := qhid (put4_below HB2.out (jN _) (.int .i64 (n : Int)) (.int .i64 1) (.map af) (.map al));have HU := qhid (And.intro (wt_put4 (H12.out.1.up HB2.out) hr2 (.int .i64 (n : Int)) (.int .i64 1) (.map af) (.map al)) (wt_put4 (H12.out.2.up HB2.out) hr2 (.int .i64 (n : Int)) (.int .i64 1) (.map af) (.map al)));clear hW2 hb2 hr2 hn2 hsz c0 c6 c7 hlk
 go_wp2_with fail
 obtain ⟨c0,c1,c2,c3⟩ := prt_cells HP.out;exact bodyPost_ret (v := .agg #[.int .i64 (n : Int),.int .i64 1,.map af,.map al]) (by simp [results,Tryz.results233,go_sem,c0,c1,c2,c3]) rfl ⟨af,al,by rw [HN.out],HU.out.1,HU.out.2,HPB.out⟩
def mkP (k : Int) (A B : Prt) : Prt :=
 if k = 1 then ⟨1,0,unitW,unitW⟩ else if k = 2 then catP A B else if k = 3 then altP A B else if k = 4 then ⟨A.places,1,A.first,A.last⟩ else ⟨0,1,noneW,noneW⟩
theorem prt_node (k : Int) (s : W4) (z : Bool) (a b : Co) : prtC (.node k s z a b) = mkP k (prtC a) (prtC b) := by rw [prtC,mkP]
theorem made_any (w : World) (mb q : Nat) (D : List (Option Nat × Value)) (k : Int) (s : W4) (z : Bool) (a b : Option Nat) (A B : Prt) (hk0 : 0 <= k /\ k <= 4) (hq : w.heap[q]? = some (coOb k s z (kPtr a) (kPtr b))) (hk : KnAt w mb D) (ka : IsK w a) (kb : IsK w b)
  (pa : k = 2 \/ k = 3 \/ k = 4 -> PrtAt w ((vgot D a).getD zeroV) A) (pb : k = 2 \/ k = 3 -> PrtAt w ((vgot D b).getD zeroV) B) (oa : PrtOK A) (ob : PrtOK B) (na : k = 2 \/ k = 3 -> A.places <= 10000) (nb : k = 2 \/ k = 3 -> B.places <= 10000) :
  Calls Tryz.prog 233 #[.map (some mb),.pointer (some ⟨q,0,none⟩)] w fun e w' => PrtTo w w' e (mkP k A B) := by
 have hl := jS hq;obtain ⟨c0,_,_⟩ := co_cells hq;unfold mkP
 by_cases h1 : k = 1
 ·subst h1;rw [if_pos rfl];exact made_set w mb q c0 hl
 ·rw [if_neg h1]
  by_cases h2 : k = 2
  ·subst h2;rw [if_pos rfl];exact made_cat w mb q D s z a b A B hq hk ka kb (pa (by omega)) (pb (by omega)) oa ob (na (by omega)) (nb (by omega))
  ·rw [if_neg h2]
   by_cases h3 : k = 3
   ·subst h3;rw [if_pos rfl];exact made_alt w mb q D s z a b A B hq hk ka kb (pa (by omega)) (pb (by omega)) oa ob (na (by omega)) (nb (by omega))
   ·rw [if_neg h3]
    by_cases h4 : k = 4
    ·subst h4;rw [if_pos rfl];exact made_star w mb q D s z a _ A hq hk ka (pa (by omega))
    ·rw [if_neg h4];exact made_empty w mb q k c0 hl (by omega)
end
end Go.Proofs.YtnmalggmbeipaaaGreatDoor
