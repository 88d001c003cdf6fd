/- A part of the proof. -/
import Derived.Test.YtnmalggmbeipaaaGreatDoorWeS
import Derived.Test.YtnmalggmbeipaaaGreatDoorWeL
import Derived.Test.YtnmalggmbeipaaaGreatDoorRegion
set_option maxRecDepth 100000
set_option maxHeartbeats 16000000
namespace Go.Proofs.YtnmalggmbeipaaaGreatDoor
section
open Go Go.RowKit
attribute [local go_sem ↓] Go.wp_at_zero Go.wp_at_succ
abbrev prtOb (p v : Int) (m k : Option Nat) : Obj := .cells #[.int .i64 p,.int .i64 v,.map m,.map k] 196
theorem prt_cells {w : World} {b : Nat} {p v : Int} {m k : Option Nat} (h : w.heap[b]? = some (.cells #[.int .i64 p,.int .i64 v,.map m,.map k] 196 (0,0))) :
  w.cell? ⟨b,0,none⟩ = some (.int .i64 p) /\ w.cell? ⟨b,1,none⟩ = some (.int .i64 v) /\ w.cell? ⟨b,2,none⟩ = some (.map m) /\ w.cell? ⟨b,3,none⟩ = some (.map k) :=
 ⟨(jC h 0).trans rfl,(jC h 1).trans rfl,(jC h 2).trans rfl,(jC h 3).trans rfl⟩
theorem prt_unfrozen {w : World} {b : Nat} {p v : Int} {m k : Option Nat} (h : w.heap[b]? = some (.cells #[.int .i64 p,.int .i64 v,.map m,.map k] 196 (0,0))) :
  w.frozen? ⟨b,0,none⟩ = false /\ w.frozen? ⟨b,1,none⟩ = false /\ w.frozen? ⟨b,2,none⟩ = false /\ w.frozen? ⟨b,3,none⟩ = false :=
 ⟨jU h 0,jU h 1,jU h 2,jU h 3⟩
abbrev put4 (w : World) (b : Nat) (x0 x1 x2 x3 : Value) : World := (((w.setCell ⟨b,0,none⟩ x0).setCell ⟨b,1,none⟩ x1).setCell ⟨b,2,none⟩ x2).setCell ⟨b,3,none⟩ x3
theorem put4_at {w : World} {b : Nat} {ty : TypeId} {y0 y1 y2 y3 : Value} (h : w.heap[b]? = some (.cells #[y0,y1,y2,y3] ty (0,0))) (x0 x1 x2 x3 : Value) : (put4 w b x0 x1 x2 x3).heap[b]? = some (.cells #[x0,x1,x2,x3] ty (0,0)) :=
 (Joins.block_setCell (i := 3) (Joins.block_setCell (i := 2) (Joins.block_setCell (i := 1) (Joins.block_setCell (i := 0) h x0) x1) x2) x3).trans rfl
theorem put4_below {w0 w : World} {b : Nat} (h : Below w0.heap.size w0 w) (hb : w0.heap.size <= b) (x0 x1 x2 x3 : Value) : Below w0.heap.size w0 (put4 w b x0 x1 x2 x3) :=
 (((h.setCell (p := ⟨b,0,none⟩) hb x0).setCell (p := ⟨b,1,none⟩) hb x1).setCell (p := ⟨b,2,none⟩) hb x2).setCell (p := ⟨b,3,none⟩) hb x3
def PrtTo (w w' : World) (e : Ending) (a : Prt) : Prop := ∃ m k,e = .returned (.agg #[.int .i64 (a.places : Int),.int .i64 a.void,.map m,.map k]) /\ WtAt w' (.map m) a.first /\ WtAt w' (.map k) a.last /\ Below w.heap.size w w'
theorem put4_only (w : World) (b : Nat) (x0 x1 x2 x3 : Value) : w.grownBy (put4 w b x0 x1 x2 x3) (some b) :=
 only_setCell (only_setCell (only_setCell (only_setCell (only_refl w (some b)) (.inl rfl) _) (.inl rfl) _) (.inl rfl) _) (.inl rfl) _
theorem wt_put4 {w : World} {v : Value} {f : Wts} {b : Nat} {ty : TypeId} {y0 y1 y2 y3 : Value} (h : WtAt w v f) (hb : w.heap[b]? = some (.cells #[y0,y1,y2,y3] ty (0,0))) (x0 x1 x2 x3 : Value) : WtAt (put4 w b x0 x1 x2 x3) v f := by
 rcases h with h | ⟨d,h1,h2,h3,h4⟩
 ·exact .inl h
 ·have hne : d ≠ b := fun e => by
   obtain ⟨D,⟨es,clock,h5,_⟩,_⟩ := h3;rw [e,hb] at h5
   cases h5
  have g := put4_only w b x0 x1 x2 x3;exact .inr ⟨d,h1,Nat.lt_of_lt_of_le h2 g.size,h3.kept (g.block d h2 (fun e => hne (Option.some.inj e))),h4⟩
def catT (A B : Nat) (pa va pb vb pc vc : Int) (ma ka mb kb : Option Nat) (g : Nat -> Option Nat) : Nat -> Value
 | 0 => .pointer (some ⟨A,0,none⟩)
 | 1 => .int .i64 pa
 | 2 => .pointer (some ⟨B,0,none⟩)
 | 3 => .int .i64 pb
 | 4 => .int .i64 pc
 | 5 => .pointer (some ⟨A,1,none⟩)
 | 6 => .int .i64 va
 | 7 => .pointer (some ⟨B,1,none⟩)
 | 8 => .int .i64 vb
 | 9 => .slice ((g 9).map fun b => ⟨b,0,none⟩) 2 2
 | 10 => .int .i64 vc
 | 11 => .pointer (some ⟨A,2,none⟩)
 | 12 => .map ma
 | 13 => .agg #[.map ma,.int .i64 1,.int .i64 0]
 | 14 => .pointer (some ⟨B,2,none⟩)
 | 15 => .map mb
 | 16 => .pointer (some ⟨A,1,none⟩)
 | 17 => .int .i64 va
 | 18 => .pointer (some ⟨A,0,none⟩)
 | 19 => .int .i64 pa
 | 20 => .agg #[.map mb,.int .i64 va,.int .i64 pa]
 | 21 => .map (g 21)
 | 22 => .pointer (some ⟨A,3,none⟩)
 | 23 => .map ka
 | 24 => .pointer (some ⟨B,1,none⟩)
 | 25 => .int .i64 vb
 | 26 => .agg #[.map ka,.int .i64 vb,.int .i64 0]
 | 27 => .pointer (some ⟨B,3,none⟩)
 | 28 => .map kb
 | 29 => .pointer (some ⟨A,0,none⟩)
 | 30 => .int .i64 pa
 | 31 => .agg #[.map kb,.int .i64 1,.int .i64 pa]
 | 32 => .map (g 32)
 | 33 => .agg #[.int .i64 pc,.int .i64 vc,.map (g 21),.map (g 32)]
 | 34 => undef
 | _ => undef
theorem catT_9 {A B : Nat} {pa va pb vb pc vc : Int} {ma ka mb kb b : Option Nat} {j : Nat} {g : Nat -> Option Nat} (h9 : j ≠ 9) : catT A B pa va pb vb pc vc ma ka mb kb (Reg.updP g 9 b) j = catT A B pa va pb vb pc vc ma ka mb kb g j := by
 unfold catT
 split <;> first | rfl | exact absurd rfl ‹_›
theorem catT_21 {A B : Nat} {pa va pb vb pc vc : Int} {ma ka mb kb b : Option Nat} {j : Nat} {g : Nat -> Option Nat} (h21 : j ≠ 21) (h33 : j ≠ 33) : catT A B pa va pb vb pc vc ma ka mb kb (Reg.updP g 21 b) j = catT A B pa va pb vb pc vc ma ka mb kb g j := by
 unfold catT
 split <;> first | rfl | exact absurd rfl ‹_›
theorem catT_32 {A B : Nat} {pa va pb vb pc vc : Int} {ma ka mb kb b : Option Nat} {j : Nat} {g : Nat -> Option Nat} (h32 : j ≠ 32) (h33 : j ≠ 33) : catT A B pa va pb vb pc vc ma ka mb kb (Reg.updP g 32 b) j = catT A B pa va pb vb pc vc ma ka mb kb g j := by
 unfold catT
 split <;> first | rfl | exact absurd rfl ‹_›
def catQ (va vb : Int) (f1 f2 : Wts) : Nat -> Option Nat -> World -> Prop
 | 9,m,X => ∃ b,m = some b /\ X.heap[b]? = some (.cells #[.int .i64 va,.int .i64 vb] 3 (0,0))
 | 21,m,X => WtAt X (.map m) f1
 | _,m,X => WtAt X (.map m) f2
theorem catQ_up (va vb : Int) (f1 f2 : Wts) : Reg.UpP (catQ va vb f1 f2) := by
 intro i m X Y hb h;unfold catQ at h ⊢
 split
 ·obtain ⟨b,h1,h2⟩ := h;exact ⟨b,h1,below_kept hb h2⟩
 ·exact WtAt.up h hb
 ·split at h
  ·exact absurd rfl ‹_›
  ·exact absurd rfl ‹_›
  ·exact WtAt.up h hb
theorem cat_any (w : World) (a b : Prt) (va vb : Value) (ha : PrtAt w va a) (hb : PrtAt w vb b) (oa : PrtOK a) (ob : PrtOK b) (na : a.places <= 10000) (nb : b.places <= 10000) :
  Calls Tryz.prog 249 #[va,vb] w fun e w' => PrtTo w w' e (catP a b) := by
 obtain ⟨ma,ka,rfl,hma,hka⟩ := ha;obtain ⟨mb,kb,rfl,hmb,hkb⟩ := hb;obtain ⟨W,hW⟩ : ∃ X,X = ((w.alloc (prtOb a.places a.void ma ka)).alloc (prtOb b.places b.void mb kb)).alloc (prtOb 0 0 none none) := ⟨_,rfl⟩;have hbW : Below w.heap.size w W := by rw [hW];exact (below2 _ _ _).alloc (by rw [World.size_alloc,World.size_alloc];omega) _
 have hA : W.heap[w.heap.size]? = some (.cells #[.int .i64 (a.places : Int),.int .i64 a.void,.map ma,.map ka] 196 (0,0)) := by rw [hW];exact Reg.heap_kept_up (heap_new w (prtOb a.places a.void ma ka)) (below2 _ _ _)
 have hB : W.heap[w.heap.size + 1]? = some (.cells #[.int .i64 (b.places : Int),.int .i64 b.void,.map mb,.map kb] 196 (0,0)) := by
  rw [hW];refine Reg.heap_kept_up ?_ (below1 _ _);rw [show w.heap.size + 1 = (w.alloc (prtOb a.places a.void ma ka)).heap.size by simp];exact heap_new _ _
 have hR : W.heap[w.heap.size + 2]? = some (.cells #[.int .i64 0,.int .i64 0,.map none,.map none] 196 (0,0)) := by
  rw [hW,show w.heap.size + 2 = ((w.alloc (prtOb a.places a.void ma ka)).alloc (prtOb b.places b.void mb kb)).heap.size by simp];exact heap_new _ _
 have HMA := qhid hma;have HKA := qhid hka;have HMB := qhid hmb;have HKB := qhid hkb;have HOA := qhid oa;have HOB := qhid ob;have HBW := qhid hbW;have HA := qhid hA;have HB := qhid hB;have HR := qhid hR;have HW := qhid hW;have HNA := qhid na;have HNB := qhid nb;have HWR : Hid (IntKind.i64.wrap ((a.places : Int) + (b.places : Int)) = (a.places : Int) + (b.places : Int)) := qhid (by rw [IntKind.wrap_i64];omega);clear hma hka hmb hkb oa ob hbW hA hB hR hW na nb
 go_enter Tryz.func249,Tryz.ntmps249
 go_wp2_with fail
 rw [show ((w.alloc (prtOb a.places a.void ma ka)).alloc (prtOb b.places b.void mb kb)).alloc (prtOb 0 0 none none) = W from HW.out.symm];refine Reg.wp_region_H (catT w.heap.size (w.heap.size + 1) (a.places : Int) a.void (b.places : Int) b.void ((a.places : Int) + (b.places : Int)) (ti a.void b.void) ma ka mb kb) (Reg.GenH 34 (Reg.MkP W [9,21,32] (catQ a.void b.void (smW a.first (tmW b.first a.void a.places)) (smW (tmW a.last b.void 0) (tmW b.last 1 a.places)))) (fun g X => Below w.heap.size w X /\ X.heap[w.heap.size + 2]? = some (.cells #[.int .i64 ((a.places : Int) + (b.places : Int)),.int .i64 (ti a.void b.void),.map (g 21),.map (g 32)] 196 (0,0)) /\ WtAt X (.map (g 21)) (smW a.first (tmW b.first a.void a.places)) /\ WtAt X (.map (g 32)) (smW (tmW a.last b.void 0) (tmW b.last 1 a.places)))) (fun _ => none) [0,1,2,3,4,5,6,7,8,9,10,11,12,13,14,15,16,17,18,19,20,21,22,23,24,25,26,27,28,29,30,31,32,33,34] (by rfl) (by kernel_rfl) (by kernel_rfl) ?_ ?_ ?_
 ·exact Reg.GenH.start (Reg.MkP.start _ _)
 ·refine ⟨fun gh listed A X hI hcl hin hun hall => ⟨Reg.wanted_none rfl,?_⟩,?_⟩
  ·have e2 := hI.evo (d := 2) (by kernel_rfl) rfl;have hnn := Reg.un_of_reach hcl (n := 34) (i := 0) (by kernel_rfl) (by simpa using hun);have HS := hI.st.ahead hnn;have hX := HS.bel;clear hI hX;have HS2 := qhid HS;clear HS;unfold Reg.Yields
   go_simp
   exact Reg.GenH.step hnn (by decide) (fun _ _ => rfl) rfl (HS2.out.up (by simp) (catQ_up _ _ _ _) (Below.refl _ _))
  refine ⟨fun gh listed A X hI hcl hin hun hall => ⟨Reg.wanted_none rfl,?_⟩,?_⟩
  ·have e5 : A.tmps[5]? = some (.pointer (some ⟨w.heap.size,0,none⟩)) := hI.ev (i := 0) (d := 5) (by rfl) (hall ⟨0,.data⟩ (by simp) rfl);have hnn := Reg.un_of_reach hcl (n := 34) (i := 1) (by kernel_rfl) (by simpa using hun);have HS := hI.st.ahead hnn;have hX := HS.bel;obtain ⟨c0,c1,c2,c3⟩ := prt_cells (Reg.heap_kept_up HA.out hX);clear hI hX;have HS2 := qhid HS;clear HS;unfold Reg.Yields
   go_simp
   exact Reg.GenH.step hnn (by decide) (fun _ _ => rfl) rfl (HS2.out.up (by simp) (catQ_up _ _ _ _) (Below.refl _ _))
  refine ⟨fun gh listed A X hI hcl hin hun hall => ⟨Reg.wanted_none rfl,?_⟩,?_⟩
  ·have e3 := hI.evo (d := 3) (by kernel_rfl) rfl;have hnn := Reg.un_of_reach hcl (n := 34) (i := 2) (by kernel_rfl) (by simpa using hun);have HS := hI.st.ahead hnn;have hX := HS.bel;clear hI hX;have HS2 := qhid HS;clear HS;unfold Reg.Yields
   go_simp
   exact Reg.GenH.step hnn (by decide) (fun _ _ => rfl) rfl (HS2.out.up (by simp) (catQ_up _ _ _ _) (Below.refl _ _))
  refine ⟨fun gh listed A X hI hcl hin hun hall => ⟨Reg.wanted_none rfl,?_⟩,?_⟩
  ·have e7 : A.tmps[7]? = some (.pointer (some ⟨(w.heap.size + 1),0,none⟩)) := hI.ev (i := 2) (d := 7) (by rfl) (hall ⟨2,.data⟩ (by simp) rfl);have hnn := Reg.un_of_reach hcl (n := 34) (i := 3) (by kernel_rfl) (by simpa using hun);have HS := hI.st.ahead hnn;have hX := HS.bel;obtain ⟨c0,c1,c2,c3⟩ := prt_cells (Reg.heap_kept_up HB.out hX);clear hI hX;have HS2 := qhid HS;clear HS;unfold Reg.Yields
   go_simp
   exact Reg.GenH.step hnn (by decide) (fun _ _ => rfl) rfl (HS2.out.up (by simp) (catQ_up _ _ _ _) (Below.refl _ _))
  refine ⟨fun gh listed A X hI hcl hin hun hall => ⟨Reg.wanted_none rfl,?_⟩,?_⟩
  ·have e6 : A.tmps[6]? = some (.int .i64 (a.places : Int)) := hI.ev (i := 1) (d := 6) (by rfl) (hall ⟨1,.data⟩ (by simp) rfl);have e8 : A.tmps[8]? = some (.int .i64 (b.places : Int)) := hI.ev (i := 3) (d := 8) (by rfl) (hall ⟨3,.data⟩ (by simp) rfl);have hnn := Reg.un_of_reach hcl (n := 34) (i := 4) (by kernel_rfl) (by simpa using hun);have HS := hI.st.ahead hnn;have hX := HS.bel;have hwr := HWR.out;clear hI hX;have HS2 := qhid HS;clear HS;unfold Reg.Yields
   go_simp
   exact Reg.GenH.step hnn (by decide) (fun _ _ => rfl) rfl (HS2.out.up (by simp) (catQ_up _ _ _ _) (Below.refl _ _))
  refine ⟨fun gh listed A X hI hcl hin hun hall => ⟨Reg.wanted_none rfl,?_⟩,?_⟩
  ·have e2 := hI.evo (d := 2) (by kernel_rfl) rfl;have hnn := Reg.un_of_reach hcl (n := 34) (i := 5) (by kernel_rfl) (by simpa using hun);have HS := hI.st.ahead hnn;have hX := HS.bel;clear hI hX;have HS2 := qhid HS;clear HS;unfold Reg.Yields
   go_simp
   exact Reg.GenH.step hnn (by decide) (fun _ _ => rfl) rfl (HS2.out.up (by simp) (catQ_up _ _ _ _) (Below.refl _ _))
  refine ⟨fun gh listed A X hI hcl hin hun hall => ⟨Reg.wanted_none rfl,?_⟩,?_⟩
  ·have e10 : A.tmps[10]? = some (.pointer (some ⟨w.heap.size,1,none⟩)) := hI.ev (i := 5) (d := 10) (by rfl) (hall ⟨5,.data⟩ (by simp) rfl);have hnn := Reg.un_of_reach hcl (n := 34) (i := 6) (by kernel_rfl) (by simpa using hun);have HS := hI.st.ahead hnn;have hX := HS.bel;obtain ⟨c0,c1,c2,c3⟩ := prt_cells (Reg.heap_kept_up HA.out hX);clear hI hX;have HS2 := qhid HS;clear HS;unfold Reg.Yields
   go_simp
   exact Reg.GenH.step hnn (by decide) (fun _ _ => rfl) rfl (HS2.out.up (by simp) (catQ_up _ _ _ _) (Below.refl _ _))
  refine ⟨fun gh listed A X hI hcl hin hun hall => ⟨Reg.wanted_none rfl,?_⟩,?_⟩
  ·have e3 := hI.evo (d := 3) (by kernel_rfl) rfl;have hnn := Reg.un_of_reach hcl (n := 34) (i := 7) (by kernel_rfl) (by simpa using hun);have HS := hI.st.ahead hnn;have hX := HS.bel;clear hI hX;have HS2 := qhid HS;clear HS;unfold Reg.Yields
   go_simp
   exact Reg.GenH.step hnn (by decide) (fun _ _ => rfl) rfl (HS2.out.up (by simp) (catQ_up _ _ _ _) (Below.refl _ _))
  refine ⟨fun gh listed A X hI hcl hin hun hall => ⟨Reg.wanted_none rfl,?_⟩,?_⟩
  ·have e12 : A.tmps[12]? = some (.pointer (some ⟨(w.heap.size + 1),1,none⟩)) := hI.ev (i := 7) (d := 12) (by rfl) (hall ⟨7,.data⟩ (by simp) rfl);have hnn := Reg.un_of_reach hcl (n := 34) (i := 8) (by kernel_rfl) (by simpa using hun);have HS := hI.st.ahead hnn;have hX := HS.bel;obtain ⟨c0,c1,c2,c3⟩ := prt_cells (Reg.heap_kept_up HB.out hX);clear hI hX;have HS2 := qhid HS;clear HS;unfold Reg.Yields
   go_simp
   exact Reg.GenH.step hnn (by decide) (fun _ _ => rfl) rfl (HS2.out.up (by simp) (catQ_up _ _ _ _) (Below.refl _ _))
  refine ⟨fun gh listed A X hI hcl hin hun hall => ⟨Reg.wanted_none rfl,?_⟩,?_⟩
  ·have e11 : A.tmps[11]? = some (.int .i64 a.void) := hI.ev (i := 6) (d := 11) (by rfl) (hall ⟨6,.data⟩ (by simp) rfl);have e13 : A.tmps[13]? = some (.int .i64 b.void) := hI.ev (i := 8) (d := 13) (by rfl) (hall ⟨8,.data⟩ (by simp) rfl);have hnn := Reg.un_of_reach hcl (n := 34) (i := 9) (by kernel_rfl) (by simpa using hun);have HS := hI.st.ahead hnn;have hX := HS.bel;clear hI hX;have HS2 := qhid HS;clear HS;unfold Reg.Yields
   go_simp
   exact Reg.GenH.step (g' := Reg.updP gh 9 (some X.heap.size)) hnn (by decide) (fun j hj => catT_9 (fun e => by rw [e] at hj;rw [hj] at hun;cases hun)) rfl (HS2.out.new _ (catQ_up _ _ _ _) (below1 _ _) ⟨_,rfl,heap_new _ _⟩)
  refine ⟨fun gh listed A X hI hcl hin hun hall => ⟨Reg.wanted_none rfl,?_⟩,?_⟩
  ·have e14 : A.tmps[14]? = some (.slice ((gh 9).map fun b => ⟨b,0,none⟩) 2 2) := hI.ev (i := 9) (d := 14) (by rfl) (hall ⟨9,.data⟩ (by simp) rfl);have hnn := Reg.un_of_reach hcl (n := 34) (i := 10) (by kernel_rfl) (by simpa using hun);have HS := hI.st.ahead hnn;have hX := HS.bel;obtain ⟨bb,hbb,hb2⟩ := HS.at_ 9 (by simp) (hall ⟨9,.data⟩ (by simp) rfl);rw [hbb] at e14;have HM := qhid (mul2_any bb a.void b.void X HOA.out.void HOB.out.void hb2);clear hb2 hbb;clear hI hX;have HS2 := qhid HS;clear HS;unfold Reg.Yields
   go_simp
   exact HM.out.mono fun e w2 ⟨he,hw⟩ => ⟨_,he,by rw [hw];exact Reg.GenH.step hnn (by decide) (fun _ _ => rfl) rfl (HS2.out.up (by simp) (catQ_up _ _ _ _) (Below.refl _ _))⟩
  refine ⟨fun gh listed A X hI hcl hin hun hall => ⟨Reg.wanted_none rfl,?_⟩,?_⟩
  ·have e2 := hI.evo (d := 2) (by kernel_rfl) rfl;have hnn := Reg.un_of_reach hcl (n := 34) (i := 11) (by kernel_rfl) (by simpa using hun);have HS := hI.st.ahead hnn;have hX := HS.bel;clear hI hX;have HS2 := qhid HS;clear HS;unfold Reg.Yields
   go_simp
   exact Reg.GenH.step hnn (by decide) (fun _ _ => rfl) rfl (HS2.out.up (by simp) (catQ_up _ _ _ _) (Below.refl _ _))
  refine ⟨fun gh listed A X hI hcl hin hun hall => ⟨Reg.wanted_none rfl,?_⟩,?_⟩
  ·have e16 : A.tmps[16]? = some (.pointer (some ⟨w.heap.size,2,none⟩)) := hI.ev (i := 11) (d := 16) (by rfl) (hall ⟨11,.data⟩ (by simp) rfl);have hnn := Reg.un_of_reach hcl (n := 34) (i := 12) (by kernel_rfl) (by simpa using hun);have HS := hI.st.ahead hnn;have hX := HS.bel;obtain ⟨c0,c1,c2,c3⟩ := prt_cells (Reg.heap_kept_up HA.out hX);clear hI hX;have HS2 := qhid HS;clear HS;unfold Reg.Yields
   go_simp
   exact Reg.GenH.step hnn (by decide) (fun _ _ => rfl) rfl (HS2.out.up (by simp) (catQ_up _ _ _ _) (Below.refl _ _))
  refine ⟨fun gh listed A X hI hcl hin hun hall => ⟨Reg.wanted_none rfl,?_⟩,?_⟩
  ·have e17 : A.tmps[17]? = some (.map ma) := hI.ev (i := 12) (d := 17) (by rfl) (hall ⟨12,.data⟩ (by simp) rfl);have hnn := Reg.un_of_reach hcl (n := 34) (i := 13) (by kernel_rfl) (by simpa using hun);have HS := hI.st.ahead hnn;have hX := HS.bel;clear hI hX;have HS2 := qhid HS;clear HS;unfold Reg.Yields
   go_simp
   exact Reg.GenH.step hnn (by decide) (fun _ _ => rfl) rfl (HS2.out.up (by simp) (catQ_up _ _ _ _) (Below.refl _ _))
  refine ⟨fun gh listed A X hI hcl hin hun hall => ⟨Reg.wanted_none rfl,?_⟩,?_⟩
  ·have e3 := hI.evo (d := 3) (by kernel_rfl) rfl;have hnn := Reg.un_of_reach hcl (n := 34) (i := 14) (by kernel_rfl) (by simpa using hun);have HS := hI.st.ahead hnn;have hX := HS.bel;clear hI hX;have HS2 := qhid HS;clear HS;unfold Reg.Yields
   go_simp
   exact Reg.GenH.step hnn (by decide) (fun _ _ => rfl) rfl (HS2.out.up (by simp) (catQ_up _ _ _ _) (Below.refl _ _))
  refine ⟨fun gh listed A X hI hcl hin hun hall => ⟨Reg.wanted_none rfl,?_⟩,?_⟩
  ·have e19 : A.tmps[19]? = some (.pointer (some ⟨(w.heap.size + 1),2,none⟩)) := hI.ev (i := 14) (d := 19) (by rfl) (hall ⟨14,.data⟩ (by simp) rfl);have hnn := Reg.un_of_reach hcl (n := 34) (i := 15) (by kernel_rfl) (by simpa using hun);have HS := hI.st.ahead hnn;have hX := HS.bel;obtain ⟨c0,c1,c2,c3⟩ := prt_cells (Reg.heap_kept_up HB.out hX);clear hI hX;have HS2 := qhid HS;clear HS;unfold Reg.Yields
   go_simp
   exact Reg.GenH.step hnn (by decide) (fun _ _ => rfl) rfl (HS2.out.up (by simp) (catQ_up _ _ _ _) (Below.refl _ _))
  refine ⟨fun gh listed A X hI hcl hin hun hall => ⟨Reg.wanted_none rfl,?_⟩,?_⟩
  ·have e2 := hI.evo (d := 2) (by kernel_rfl) rfl;have hnn := Reg.un_of_reach hcl (n := 34) (i := 16) (by kernel_rfl) (by simpa using hun);have HS := hI.st.ahead hnn;have hX := HS.bel;clear hI hX;have HS2 := qhid HS;clear HS;unfold Reg.Yields
   go_simp
   exact Reg.GenH.step hnn (by decide) (fun _ _ => rfl) rfl (HS2.out.up (by simp) (catQ_up _ _ _ _) (Below.refl _ _))
  refine ⟨fun gh listed A X hI hcl hin hun hall => ⟨Reg.wanted_none rfl,?_⟩,?_⟩
  ·have e21 : A.tmps[21]? = some (.pointer (some ⟨w.heap.size,1,none⟩)) := hI.ev (i := 16) (d := 21) (by rfl) (hall ⟨16,.data⟩ (by simp) rfl);have hnn := Reg.un_of_reach hcl (n := 34) (i := 17) (by kernel_rfl) (by simpa using hun);have HS := hI.st.ahead hnn;have hX := HS.bel;obtain ⟨c0,c1,c2,c3⟩ := prt_cells (Reg.heap_kept_up HA.out hX);clear hI hX;have HS2 := qhid HS;clear HS;unfold Reg.Yields
   go_simp
   exact Reg.GenH.step hnn (by decide) (fun _ _ => rfl) rfl (HS2.out.up (by simp) (catQ_up _ _ _ _) (Below.refl _ _))
  refine ⟨fun gh listed A X hI hcl hin hun hall => ⟨Reg.wanted_none rfl,?_⟩,?_⟩
  ·have e2 := hI.evo (d := 2) (by kernel_rfl) rfl;have hnn := Reg.un_of_reach hcl (n := 34) (i := 18) (by kernel_rfl) (by simpa using hun);have HS := hI.st.ahead hnn;have hX := HS.bel;clear hI hX;have HS2 := qhid HS;clear HS;unfold Reg.Yields
   go_simp
   exact Reg.GenH.step hnn (by decide) (fun _ _ => rfl) rfl (HS2.out.up (by simp) (catQ_up _ _ _ _) (Below.refl _ _))
  refine ⟨fun gh listed A X hI hcl hin hun hall => ⟨Reg.wanted_none rfl,?_⟩,?_⟩
  ·have e23 : A.tmps[23]? = some (.pointer (some ⟨w.heap.size,0,none⟩)) := hI.ev (i := 18) (d := 23) (by rfl) (hall ⟨18,.data⟩ (by simp) rfl);have hnn := Reg.un_of_reach hcl (n := 34) (i := 19) (by kernel_rfl) (by simpa using hun);have HS := hI.st.ahead hnn;have hX := HS.bel;obtain ⟨c0,c1,c2,c3⟩ := prt_cells (Reg.heap_kept_up HA.out hX);clear hI hX;have HS2 := qhid HS;clear HS;unfold Reg.Yields
   go_simp
   exact Reg.GenH.step hnn (by decide) (fun _ _ => rfl) rfl (HS2.out.up (by simp) (catQ_up _ _ _ _) (Below.refl _ _))
  refine ⟨fun gh listed A X hI hcl hin hun hall => ⟨Reg.wanted_none rfl,?_⟩,?_⟩
  ·have e20 : A.tmps[20]? = some (.map mb) := hI.ev (i := 15) (d := 20) (by rfl) (hall ⟨15,.data⟩ (by simp) rfl);have e22 : A.tmps[22]? = some (.int .i64 a.void) := hI.ev (i := 17) (d := 22) (by rfl) (hall ⟨17,.data⟩ (by simp) rfl);have e24 : A.tmps[24]? = some (.int .i64 (a.places : Int)) := hI.ev (i := 19) (d := 24) (by rfl) (hall ⟨19,.data⟩ (by simp) rfl);have hnn := Reg.un_of_reach hcl (n := 34) (i := 20) (by kernel_rfl) (by simpa using hun);have HS := hI.st.ahead hnn;have hX := HS.bel;clear hI hX;have HS2 := qhid HS;clear HS;unfold Reg.Yields
   go_simp
   exact Reg.GenH.step hnn (by decide) (fun _ _ => rfl) rfl (HS2.out.up (by simp) (catQ_up _ _ _ _) (Below.refl _ _))
  refine ⟨fun gh listed A X hI hcl hin hun hall => ⟨Reg.wanted_none rfl,?_⟩,?_⟩
  ·have e18 : A.tmps[18]? = some (.agg #[.map ma,.int .i64 1,.int .i64 0]) := hI.ev (i := 13) (d := 18) (by rfl) (hall ⟨13,.data⟩ (by simp) rfl);have e25 : A.tmps[25]? = some (.agg #[.map mb,.int .i64 a.void,.int .i64 (a.places : Int)]) := hI.ev (i := 20) (d := 25) (by rfl) (hall ⟨20,.data⟩ (by simp) rfl);have hnn := Reg.un_of_reach hcl (n := 34) (i := 21) (by kernel_rfl) (by simpa using hun);have HS := hI.st.ahead hnn;have hX := HS.bel;have HM := qhid (sum_any X _ _ a.first b.first a.places b.places 1 a.void 0 a.places (HMA.out.up (HBW.out.trans (hX.mono HBW.out.size))) (HMB.out.up (HBW.out.trans (hX.mono HBW.out.size))) HOA.out.first HOB.out.first (by have := HNA.out;have := HNB.out;omega) ⟨by omega,by unfold top;omega⟩ HOA.out.void);rw [tm_one HOA.out.first] at HM;clear hI hX;have HS2 := qhid HS;clear HS;unfold Reg.Yields
   go_simp
   refine HM.out.mono ?_;rintro e w2 ⟨m',he,hv,hb⟩;exact ⟨_,he,Reg.GenH.step (g' := Reg.updP gh 21 m') hnn (by decide) (fun j hj => catT_21 (fun e => by rw [e] at hj;rw [hj] at hun;cases hun) (fun e => by rw [e] at hj;rw [Reg.closed_reach hcl 60 33 21 (by kernel_rfl) hj] at hun;cases hun)) rfl (HS2.out.new _ (catQ_up _ _ _ _) hb hv)⟩
  refine ⟨fun gh listed A X hI hcl hin hun hall => ⟨Reg.wanted_none rfl,?_⟩,?_⟩
  ·have e2 := hI.evo (d := 2) (by kernel_rfl) rfl;have hnn := Reg.un_of_reach hcl (n := 34) (i := 22) (by kernel_rfl) (by simpa using hun);have HS := hI.st.ahead hnn;have hX := HS.bel;clear hI hX;have HS2 := qhid HS;clear HS;unfold Reg.Yields
   go_simp
   exact Reg.GenH.step hnn (by decide) (fun _ _ => rfl) rfl (HS2.out.up (by simp) (catQ_up _ _ _ _) (Below.refl _ _))
  refine ⟨fun gh listed A X hI hcl hin hun hall => ⟨Reg.wanted_none rfl,?_⟩,?_⟩
  ·have e27 : A.tmps[27]? = some (.pointer (some ⟨w.heap.size,3,none⟩)) := hI.ev (i := 22) (d := 27) (by rfl) (hall ⟨22,.data⟩ (by simp) rfl);have hnn := Reg.un_of_reach hcl (n := 34) (i := 23) (by kernel_rfl) (by simpa using hun);have HS := hI.st.ahead hnn;have hX := HS.bel;obtain ⟨c0,c1,c2,c3⟩ := prt_cells (Reg.heap_kept_up HA.out hX);clear hI hX;have HS2 := qhid HS;clear HS;unfold Reg.Yields
   go_simp
   exact Reg.GenH.step hnn (by decide) (fun _ _ => rfl) rfl (HS2.out.up (by simp) (catQ_up _ _ _ _) (Below.refl _ _))
  refine ⟨fun gh listed A X hI hcl hin hun hall => ⟨Reg.wanted_none rfl,?_⟩,?_⟩
  ·have e3 := hI.evo (d := 3) (by kernel_rfl) rfl;have hnn := Reg.un_of_reach hcl (n := 34) (i := 24) (by kernel_rfl) (by simpa using hun);have HS := hI.st.ahead hnn;have hX := HS.bel;clear hI hX;have HS2 := qhid HS;clear HS;unfold Reg.Yields
   go_simp
   exact Reg.GenH.step hnn (by decide) (fun _ _ => rfl) rfl (HS2.out.up (by simp) (catQ_up _ _ _ _) (Below.refl _ _))
  refine ⟨fun gh listed A X hI hcl hin hun hall => ⟨Reg.wanted_none rfl,?_⟩,?_⟩
  ·have e29 : A.tmps[29]? = some (.pointer (some ⟨(w.heap.size + 1),1,none⟩)) := hI.ev (i := 24) (d := 29) (by rfl) (hall ⟨24,.data⟩ (by simp) rfl);have hnn := Reg.un_of_reach hcl (n := 34) (i := 25) (by kernel_rfl) (by simpa using hun);have HS := hI.st.ahead hnn;have hX := HS.bel;obtain ⟨c0,c1,c2,c3⟩ := prt_cells (Reg.heap_kept_up HB.out hX);clear hI hX;have HS2 := qhid HS;clear HS;unfold Reg.Yields
   go_simp
   exact Reg.GenH.step hnn (by decide) (fun _ _ => rfl) rfl (HS2.out.up (by simp) (catQ_up _ _ _ _) (Below.refl _ _))
  refine ⟨fun gh listed A X hI hcl hin hun hall => ⟨Reg.wanted_none rfl,?_⟩,?_⟩
  ·have e28 : A.tmps[28]? = some (.map ka) := hI.ev (i := 23) (d := 28) (by rfl) (hall ⟨23,.data⟩ (by simp) rfl);have e30 : A.tmps[30]? = some (.int .i64 b.void) := hI.ev (i := 25) (d := 30) (by rfl) (hall ⟨25,.data⟩ (by simp) rfl);have hnn := Reg.un_of_reach hcl (n := 34) (i := 26) (by kernel_rfl) (by simpa using hun);have HS := hI.st.ahead hnn;have hX := HS.bel;clear hI hX;have HS2 := qhid HS;clear HS;unfold Reg.Yields
   go_simp
   exact Reg.GenH.step hnn (by decide) (fun _ _ => rfl) rfl (HS2.out.up (by simp) (catQ_up _ _ _ _) (Below.refl _ _))
  refine ⟨fun gh listed A X hI hcl hin hun hall => ⟨Reg.wanted_none rfl,?_⟩,?_⟩
  ·have e3 := hI.evo (d := 3) (by kernel_rfl) rfl;have hnn := Reg.un_of_reach hcl (n := 34) (i := 27) (by kernel_rfl) (by simpa using hun);have HS := hI.st.ahead hnn;have hX := HS.bel;clear hI hX;have HS2 := qhid HS;clear HS;unfold Reg.Yields
   go_simp
   exact Reg.GenH.step hnn (by decide) (fun _ _ => rfl) rfl (HS2.out.up (by simp) (catQ_up _ _ _ _) (Below.refl _ _))
  refine ⟨fun gh listed A X hI hcl hin hun hall => ⟨Reg.wanted_none rfl,?_⟩,?_⟩
  ·have e32 : A.tmps[32]? = some (.pointer (some ⟨(w.heap.size + 1),3,none⟩)) := hI.ev (i := 27) (d := 32) (by rfl) (hall ⟨27,.data⟩ (by simp) rfl);have hnn := Reg.un_of_reach hcl (n := 34) (i := 28) (by kernel_rfl) (by simpa using hun);have HS := hI.st.ahead hnn;have hX := HS.bel;obtain ⟨c0,c1,c2,c3⟩ := prt_cells (Reg.heap_kept_up HB.out hX);clear hI hX;have HS2 := qhid HS;clear HS;unfold Reg.Yields
   go_simp
   exact Reg.GenH.step hnn (by decide) (fun _ _ => rfl) rfl (HS2.out.up (by simp) (catQ_up _ _ _ _) (Below.refl _ _))
  refine ⟨fun gh listed A X hI hcl hin hun hall => ⟨Reg.wanted_none rfl,?_⟩,?_⟩
  ·have e2 := hI.evo (d := 2) (by kernel_rfl) rfl;have hnn := Reg.un_of_reach hcl (n := 34) (i := 29) (by kernel_rfl) (by simpa using hun);have HS := hI.st.ahead hnn;have hX := HS.bel;clear hI hX;have HS2 := qhid HS;clear HS;unfold Reg.Yields
   go_simp
   exact Reg.GenH.step hnn (by decide) (fun _ _ => rfl) rfl (HS2.out.up (by simp) (catQ_up _ _ _ _) (Below.refl _ _))
  refine ⟨fun gh listed A X hI hcl hin hun hall => ⟨Reg.wanted_none rfl,?_⟩,?_⟩
  ·have e34 : A.tmps[34]? = some (.pointer (some ⟨w.heap.size,0,none⟩)) := hI.ev (i := 29) (d := 34) (by rfl) (hall ⟨29,.data⟩ (by simp) rfl);have hnn := Reg.un_of_reach hcl (n := 34) (i := 30) (by kernel_rfl) (by simpa using hun);have HS := hI.st.ahead hnn;have hX := HS.bel;obtain ⟨c0,c1,c2,c3⟩ := prt_cells (Reg.heap_kept_up HA.out hX);clear hI hX;have HS2 := qhid HS;clear HS;unfold Reg.Yields
   go_simp
   exact Reg.GenH.step hnn (by decide) (fun _ _ => rfl) rfl (HS2.out.up (by simp) (catQ_up _ _ _ _) (Below.refl _ _))
  refine ⟨fun gh listed A X hI hcl hin hun hall => ⟨Reg.wanted_none rfl,?_⟩,?_⟩
  ·have e33 : A.tmps[33]? = some (.map kb) := hI.ev (i := 28) (d := 33) (by rfl) (hall ⟨28,.data⟩ (by simp) rfl);have e35 : A.tmps[35]? = some (.int .i64 (a.places : Int)) := hI.ev (i := 30) (d := 35) (by rfl) (hall ⟨30,.data⟩ (by simp) rfl);have hnn := Reg.un_of_reach hcl (n := 34) (i := 31) (by kernel_rfl) (by simpa using hun);have HS := hI.st.ahead hnn;have hX := HS.bel;clear hI hX;have HS2 := qhid HS;clear HS;unfold Reg.Yields
   go_simp
   exact Reg.GenH.step hnn (by decide) (fun _ _ => rfl) rfl (HS2.out.up (by simp) (catQ_up _ _ _ _) (Below.refl _ _))
  refine ⟨fun gh listed A X hI hcl hin hun hall => ⟨Reg.wanted_none rfl,?_⟩,?_⟩
  ·have e31 : A.tmps[31]? = some (.agg #[.map ka,.int .i64 b.void,.int .i64 0]) := hI.ev (i := 26) (d := 31) (by rfl) (hall ⟨26,.data⟩ (by simp) rfl);have e36 : A.tmps[36]? = some (.agg #[.map kb,.int .i64 1,.int .i64 (a.places : Int)]) := hI.ev (i := 31) (d := 36) (by rfl) (hall ⟨31,.data⟩ (by simp) rfl);have hnn := Reg.un_of_reach hcl (n := 34) (i := 32) (by kernel_rfl) (by simpa using hun);have HS := hI.st.ahead hnn;have hX := HS.bel;have HM := qhid (sum_any X _ _ a.last b.last a.places b.places b.void 1 0 a.places (HKA.out.up (HBW.out.trans (hX.mono HBW.out.size))) (HKB.out.up (HBW.out.trans (hX.mono HBW.out.size))) HOA.out.last HOB.out.last (by have := HNA.out;have := HNB.out;omega) HOB.out.void ⟨by omega,by unfold top;omega⟩);clear hI hX;have HS2 := qhid HS;clear HS;unfold Reg.Yields
   go_simp
   refine HM.out.mono ?_;rintro e w2 ⟨m',he,hv,hb⟩;exact ⟨_,he,Reg.GenH.step (g' := Reg.updP gh 32 m') hnn (by decide) (fun j hj => catT_32 (fun e => by rw [e] at hj;rw [hj] at hun;cases hun) (fun e => by rw [e] at hj;rw [Reg.closed_reach hcl 60 33 32 (by kernel_rfl) hj] at hun;cases hun)) rfl (HS2.out.new _ (catQ_up _ _ _ _) hb hv)⟩
  refine ⟨fun gh listed A X hI hcl hin hun hall => ⟨Reg.wanted_none rfl,?_⟩,?_⟩
  ·have e9 : A.tmps[9]? = some (.int .i64 ((a.places : Int) + (b.places : Int))) := hI.ev (i := 4) (d := 9) (by rfl) (hall ⟨4,.data⟩ (by simp) rfl);have e15 : A.tmps[15]? = some (.int .i64 (ti a.void b.void)) := hI.ev (i := 10) (d := 15) (by rfl) (hall ⟨10,.data⟩ (by simp) rfl);have e26 : A.tmps[26]? = some (.map (gh 21)) := hI.ev (i := 21) (d := 26) (by rfl) (hall ⟨21,.data⟩ (by simp) rfl);have e37 : A.tmps[37]? = some (.map (gh 32)) := hI.ev (i := 32) (d := 37) (by rfl) (hall ⟨32,.data⟩ (by simp) rfl);have hnn := Reg.un_of_reach hcl (n := 34) (i := 33) (by kernel_rfl) (by simpa using hun);have HS := hI.st.ahead hnn;have hX := HS.bel;clear hI hX;have HS2 := qhid HS;clear HS;unfold Reg.Yields
   go_simp
   exact Reg.GenH.step hnn (by decide) (fun _ _ => rfl) rfl (HS2.out.up (by simp) (catQ_up _ _ _ _) (Below.refl _ _))
  refine ⟨fun gh listed A X hI hcl hin hun hall => ⟨Reg.wanted_none rfl,?_⟩,?_⟩
  ·have e4 := hI.evo (d := 4) (by kernel_rfl) rfl;have e38 : A.tmps[38]? = some (.agg #[.int .i64 ((a.places : Int) + (b.places : Int)),.int .i64 (ti a.void b.void),.map (gh 21),.map (gh 32)]) := hI.ev (i := 33) (d := 38) (by rfl) (hall ⟨33,.data⟩ (by simp) rfl);have hnn : listed.getD 34 false = false := by simpa using hun
   have HS := hI.st.ahead hnn;have hX := HS.bel;have h1 := HS.at_ 21 (by simp) (hall ⟨21,.phase⟩ (by simp) rfl);have h2 := HS.at_ 32 (by simp) (hall ⟨32,.phase⟩ (by simp) rfl);have HH1 : Hid (WtAt X (.map (gh 21)) (smW a.first (tmW b.first a.void a.places))) := qhid h1;have HH2 : Hid (WtAt X (.map (gh 32)) (smW (tmW a.last b.void 0) (tmW b.last 1 a.places))) := qhid h2;obtain ⟨c0,c1,c2,c3⟩ := prt_cells (Reg.heap_kept_up HR.out hX);obtain ⟨f0,f1,f2,f3⟩ := prt_unfrozen (Reg.heap_kept_up HR.out hX);have HRX := qhid (Reg.heap_kept_up HR.out hX);clear h1 h2;clear hI hX;have HS2 := qhid HS;clear HS;unfold Reg.Yields
   go_simp
   have hbb := put4_below (HBW.out.trans (HS2.out.bel.mono HBW.out.size)) (b := w.heap.size + 2) (by omega) (.int .i64 ((a.places : Int) + (b.places : Int))) (.int .i64 (ti a.void b.void)) (.map (gh 21)) (.map (gh 32));have hpp := put4_at HRX.out (.int .i64 ((a.places : Int) + (b.places : Int))) (.int .i64 (ti a.void b.void)) (.map (gh 21)) (.map (gh 32));exact Reg.GenH.put hin rfl ⟨hbb,hpp,wt_put4 HH1.out HRX.out _ _ _ _,wt_put4 HH2.out HRX.out _ _ _ _⟩
  trivial
 ·intro gh X hS;obtain ⟨h1,h2,h3,h4⟩ := hS.done (by rfl);clear hS;have H1 := qhid h1;obtain ⟨c0,c1,c2,c3⟩ := prt_cells h2;have H3 := qhid h3;have H4 := qhid h4;clear h1 h2 h3 h4;simp [Reg.finalTmps,Reg.dstAt,Reg.valOf,catT]
  go_wp2_with fail
  refine bodyPost_ret (v := .agg #[.int .i64 ((a.places : Int) + (b.places : Int)),.int .i64 (ti a.void b.void),.map (gh 21),.map (gh 32)]) (by simp [results,Tryz.results249,go_sem,c0,c1,c2,c3]) rfl ⟨gh 21,gh 32,?_,H3.out,H4.out,H1.out⟩;rw [show (catP a b).places = a.places + b.places from rfl,Int.natCast_add];rfl
def altT (A B : Nat) (pa va pb vb pc vc : Int) (ma ka mb kb : Option Nat) (g : Nat -> Option Nat) : Nat -> Value
 | 0 => .pointer (some ⟨A,0,none⟩)
 | 1 => .int .i64 pa
 | 2 => .pointer (some ⟨B,0,none⟩)
 | 3 => .int .i64 pb
 | 4 => .int .i64 pc
 | 5 => .pointer (some ⟨A,1,none⟩)
 | 6 => .int .i64 va
 | 7 => .pointer (some ⟨B,1,none⟩)
 | 8 => .int .i64 vb
 | 9 => .slice ((g 9).map fun b => ⟨b,0,none⟩) 2 2
 | 10 => .int .i64 vc
 | 11 => .pointer (some ⟨A,2,none⟩)
 | 12 => .map ma
 | 13 => .agg #[.map ma,.int .i64 1,.int .i64 0]
 | 14 => .pointer (some ⟨B,2,none⟩)
 | 15 => .map mb
 | 16 => .pointer (some ⟨A,0,none⟩)
 | 17 => .int .i64 pa
 | 18 => .agg #[.map mb,.int .i64 1,.int .i64 pa]
 | 19 => .map (g 19)
 | 20 => .pointer (some ⟨A,3,none⟩)
 | 21 => .map ka
 | 22 => .agg #[.map ka,.int .i64 1,.int .i64 0]
 | 23 => .pointer (some ⟨B,3,none⟩)
 | 24 => .map kb
 | 25 => .pointer (some ⟨A,0,none⟩)
 | 26 => .int .i64 pa
 | 27 => .agg #[.map kb,.int .i64 1,.int .i64 pa]
 | 28 => .map (g 28)
 | 29 => .agg #[.int .i64 pc,.int .i64 vc,.map (g 19),.map (g 28)]
 | 30 => undef
 | _ => undef
theorem altT_9 {A B : Nat} {pa va pb vb pc vc : Int} {ma ka mb kb b : Option Nat} {j : Nat} {g : Nat -> Option Nat} (h9 : j ≠ 9) : altT A B pa va pb vb pc vc ma ka mb kb (Reg.updP g 9 b) j = altT A B pa va pb vb pc vc ma ka mb kb g j := by
 unfold altT
 split <;> first | rfl | exact absurd rfl ‹_›
theorem altT_19 {A B : Nat} {pa va pb vb pc vc : Int} {ma ka mb kb b : Option Nat} {j : Nat} {g : Nat -> Option Nat} (h19 : j ≠ 19) (h29 : j ≠ 29) : altT A B pa va pb vb pc vc ma ka mb kb (Reg.updP g 19 b) j = altT A B pa va pb vb pc vc ma ka mb kb g j := by
 unfold altT
 split <;> first | rfl | exact absurd rfl ‹_›
theorem altT_28 {A B : Nat} {pa va pb vb pc vc : Int} {ma ka mb kb b : Option Nat} {j : Nat} {g : Nat -> Option Nat} (h28 : j ≠ 28) (h29 : j ≠ 29) : altT A B pa va pb vb pc vc ma ka mb kb (Reg.updP g 28 b) j = altT A B pa va pb vb pc vc ma ka mb kb g j := by
 unfold altT
 split <;> first | rfl | exact absurd rfl ‹_›
def altQ (va vb : Int) (f1 f2 : Wts) : Nat -> Option Nat -> World -> Prop
 | 9,m,X => ∃ b,m = some b /\ X.heap[b]? = some (.cells #[.int .i64 va,.int .i64 vb] 3 (0,0))
 | 19,m,X => WtAt X (.map m) f1
 | _,m,X => WtAt X (.map m) f2
theorem altQ_up (va vb : Int) (f1 f2 : Wts) : Reg.UpP (altQ va vb f1 f2) := by
 intro i m X Y hb h;unfold altQ at h ⊢
 split
 ·obtain ⟨b,h1,h2⟩ := h;exact ⟨b,h1,below_kept hb h2⟩
 ·exact WtAt.up h hb
 ·split at h
  ·exact absurd rfl ‹_›
  ·exact absurd rfl ‹_›
  ·exact WtAt.up h hb
theorem alt_any (w : World) (a b : Prt) (va vb : Value) (ha : PrtAt w va a) (hb : PrtAt w vb b) (oa : PrtOK a) (ob : PrtOK b) (na : a.places <= 10000) (nb : b.places <= 10000) :
  Calls Tryz.prog 250 #[va,vb] w fun e w' => PrtTo w w' e (altP a b) := by
 obtain ⟨ma,ka,rfl,hma,hka⟩ := ha;obtain ⟨mb,kb,rfl,hmb,hkb⟩ := hb;obtain ⟨W,hW⟩ : ∃ X,X = ((w.alloc (prtOb a.places a.void ma ka)).alloc (prtOb b.places b.void mb kb)).alloc (prtOb 0 0 none none) := ⟨_,rfl⟩;have hbW : Below w.heap.size w W := by rw [hW];exact (below2 _ _ _).alloc (by rw [World.size_alloc,World.size_alloc];omega) _
 have hA : W.heap[w.heap.size]? = some (.cells #[.int .i64 (a.places : Int),.int .i64 a.void,.map ma,.map ka] 196 (0,0)) := by rw [hW];exact Reg.heap_kept_up (heap_new w (prtOb a.places a.void ma ka)) (below2 _ _ _)
 have hB : W.heap[w.heap.size + 1]? = some (.cells #[.int .i64 (b.places : Int),.int .i64 b.void,.map mb,.map kb] 196 (0,0)) := by
  rw [hW];refine Reg.heap_kept_up ?_ (below1 _ _);rw [show w.heap.size + 1 = (w.alloc (prtOb a.places a.void ma ka)).heap.size by simp];exact heap_new _ _
 have hR : W.heap[w.heap.size + 2]? = some (.cells #[.int .i64 0,.int .i64 0,.map none,.map none] 196 (0,0)) := by
  rw [hW,show w.heap.size + 2 = ((w.alloc (prtOb a.places a.void ma ka)).alloc (prtOb b.places b.void mb kb)).heap.size by simp];exact heap_new _ _
 have HMA := qhid hma;have HKA := qhid hka;have HMB := qhid hmb;have HKB := qhid hkb;have HOA := qhid oa;have HOB := qhid ob;have HBW := qhid hbW;have HA := qhid hA;have HB := qhid hB;have HR := qhid hR;have HW := qhid hW;have HNA := qhid na;have HNB := qhid nb;have HWR : Hid (IntKind.i64.wrap ((a.places : Int) + (b.places : Int)) = (a.places : Int) + (b.places : Int)) := qhid (by rw [IntKind.wrap_i64];omega);clear hma hka hmb hkb oa ob hbW hA hB hR hW na nb
 go_enter Tryz.func250,Tryz.ntmps250
 go_wp2_with fail
 rw [show ((w.alloc (prtOb a.places a.void ma ka)).alloc (prtOb b.places b.void mb kb)).alloc (prtOb 0 0 none none) = W from HW.out.symm];refine Reg.wp_region_H (altT w.heap.size (w.heap.size + 1) (a.places : Int) a.void (b.places : Int) b.void ((a.places : Int) + (b.places : Int)) (pl a.void b.void) ma ka mb kb) (Reg.GenH 30 (Reg.MkP W [9,19,28] (altQ a.void b.void (smW a.first (tmW b.first 1 a.places)) (smW a.last (tmW b.last 1 a.places)))) (fun g X => Below w.heap.size w X /\ X.heap[w.heap.size + 2]? = some (.cells #[.int .i64 ((a.places : Int) + (b.places : Int)),.int .i64 (pl a.void b.void),.map (g 19),.map (g 28)] 196 (0,0)) /\ WtAt X (.map (g 19)) (smW a.first (tmW b.first 1 a.places)) /\ WtAt X (.map (g 28)) (smW a.last (tmW b.last 1 a.places)))) (fun _ => none) [0,1,2,3,4,5,6,7,8,9,10,11,12,13,14,15,16,17,18,19,20,21,22,23,24,25,26,27,28,29,30] (by rfl) (by kernel_rfl) (by kernel_rfl) ?_ ?_ ?_
 ·exact Reg.GenH.start (Reg.MkP.start _ _)
 ·refine ⟨fun gh listed A X hI hcl hin hun hall => ⟨Reg.wanted_none rfl,?_⟩,?_⟩
  ·have e2 := hI.evo (d := 2) (by kernel_rfl) rfl;have hnn := Reg.un_of_reach hcl (n := 30) (i := 0) (by kernel_rfl) (by simpa using hun);have HS := hI.st.ahead hnn;have hX := HS.bel;clear hI hX;have HS2 := qhid HS;clear HS;unfold Reg.Yields
   go_simp
   exact Reg.GenH.step hnn (by decide) (fun _ _ => rfl) rfl (HS2.out.up (by simp) (altQ_up _ _ _ _) (Below.refl _ _))
  refine ⟨fun gh listed A X hI hcl hin hun hall => ⟨Reg.wanted_none rfl,?_⟩,?_⟩
  ·have e5 : A.tmps[5]? = some (.pointer (some ⟨w.heap.size,0,none⟩)) := hI.ev (i := 0) (d := 5) (by rfl) (hall ⟨0,.data⟩ (by simp) rfl);have hnn := Reg.un_of_reach hcl (n := 30) (i := 1) (by kernel_rfl) (by simpa using hun);have HS := hI.st.ahead hnn;have hX := HS.bel;obtain ⟨c0,c1,c2,c3⟩ := prt_cells (Reg.heap_kept_up HA.out hX);clear hI hX;have HS2 := qhid HS;clear HS;unfold Reg.Yields
   go_simp
   exact Reg.GenH.step hnn (by decide) (fun _ _ => rfl) rfl (HS2.out.up (by simp) (altQ_up _ _ _ _) (Below.refl _ _))
  refine ⟨fun gh listed A X hI hcl hin hun hall => ⟨Reg.wanted_none rfl,?_⟩,?_⟩
  ·have e3 := hI.evo (d := 3) (by kernel_rfl) rfl;have hnn := Reg.un_of_reach hcl (n := 30) (i := 2) (by kernel_rfl) (by simpa using hun);have HS := hI.st.ahead hnn;have hX := HS.bel;clear hI hX;have HS2 := qhid HS;clear HS;unfold Reg.Yields
   go_simp
   exact Reg.GenH.step hnn (by decide) (fun _ _ => rfl) rfl (HS2.out.up (by simp) (altQ_up _ _ _ _) (Below.refl _ _))
  refine ⟨fun gh listed A X hI hcl hin hun hall => ⟨Reg.wanted_none rfl,?_⟩,?_⟩
  ·have e7 : A.tmps[7]? = some (.pointer (some ⟨(w.heap.size + 1),0,none⟩)) := hI.ev (i := 2) (d := 7) (by rfl) (hall ⟨2,.data⟩ (by simp) rfl);have hnn := Reg.un_of_reach hcl (n := 30) (i := 3) (by kernel_rfl) (by simpa using hun);have HS := hI.st.ahead hnn;have hX := HS.bel;obtain ⟨c0,c1,c2,c3⟩ := prt_cells (Reg.heap_kept_up HB.out hX);clear hI hX;have HS2 := qhid HS;clear HS;unfold Reg.Yields
   go_simp
   exact Reg.GenH.step hnn (by decide) (fun _ _ => rfl) rfl (HS2.out.up (by simp) (altQ_up _ _ _ _) (Below.refl _ _))
  refine ⟨fun gh listed A X hI hcl hin hun hall => ⟨Reg.wanted_none rfl,?_⟩,?_⟩
  ·have e6 : A.tmps[6]? = some (.int .i64 (a.places : Int)) := hI.ev (i := 1) (d := 6) (by rfl) (hall ⟨1,.data⟩ (by simp) rfl);have e8 : A.tmps[8]? = some (.int .i64 (b.places : Int)) := hI.ev (i := 3) (d := 8) (by rfl) (hall ⟨3,.data⟩ (by simp) rfl);have hnn := Reg.un_of_reach hcl (n := 30) (i := 4) (by kernel_rfl) (by simpa using hun);have HS := hI.st.ahead hnn;have hX := HS.bel;have hwr := HWR.out;clear hI hX;have HS2 := qhid HS;clear HS;unfold Reg.Yields
   go_simp
   exact Reg.GenH.step hnn (by decide) (fun _ _ => rfl) rfl (HS2.out.up (by simp) (altQ_up _ _ _ _) (Below.refl _ _))
  refine ⟨fun gh listed A X hI hcl hin hun hall => ⟨Reg.wanted_none rfl,?_⟩,?_⟩
  ·have e2 := hI.evo (d := 2) (by kernel_rfl) rfl;have hnn := Reg.un_of_reach hcl (n := 30) (i := 5) (by kernel_rfl) (by simpa using hun);have HS := hI.st.ahead hnn;have hX := HS.bel;clear hI hX;have HS2 := qhid HS;clear HS;unfold Reg.Yields
   go_simp
   exact Reg.GenH.step hnn (by decide) (fun _ _ => rfl) rfl (HS2.out.up (by simp) (altQ_up _ _ _ _) (Below.refl _ _))
  refine ⟨fun gh listed A X hI hcl hin hun hall => ⟨Reg.wanted_none rfl,?_⟩,?_⟩
  ·have e10 : A.tmps[10]? = some (.pointer (some ⟨w.heap.size,1,none⟩)) := hI.ev (i := 5) (d := 10) (by rfl) (hall ⟨5,.data⟩ (by simp) rfl);have hnn := Reg.un_of_reach hcl (n := 30) (i := 6) (by kernel_rfl) (by simpa using hun);have HS := hI.st.ahead hnn;have hX := HS.bel;obtain ⟨c0,c1,c2,c3⟩ := prt_cells (Reg.heap_kept_up HA.out hX);clear hI hX;have HS2 := qhid HS;clear HS;unfold Reg.Yields
   go_simp
   exact Reg.GenH.step hnn (by decide) (fun _ _ => rfl) rfl (HS2.out.up (by simp) (altQ_up _ _ _ _) (Below.refl _ _))
  refine ⟨fun gh listed A X hI hcl hin hun hall => ⟨Reg.wanted_none rfl,?_⟩,?_⟩
  ·have e3 := hI.evo (d := 3) (by kernel_rfl) rfl;have hnn := Reg.un_of_reach hcl (n := 30) (i := 7) (by kernel_rfl) (by simpa using hun);have HS := hI.st.ahead hnn;have hX := HS.bel;clear hI hX;have HS2 := qhid HS;clear HS;unfold Reg.Yields
   go_simp
   exact Reg.GenH.step hnn (by decide) (fun _ _ => rfl) rfl (HS2.out.up (by simp) (altQ_up _ _ _ _) (Below.refl _ _))
  refine ⟨fun gh listed A X hI hcl hin hun hall => ⟨Reg.wanted_none rfl,?_⟩,?_⟩
  ·have e12 : A.tmps[12]? = some (.pointer (some ⟨(w.heap.size + 1),1,none⟩)) := hI.ev (i := 7) (d := 12) (by rfl) (hall ⟨7,.data⟩ (by simp) rfl);have hnn := Reg.un_of_reach hcl (n := 30) (i := 8) (by kernel_rfl) (by simpa using hun);have HS := hI.st.ahead hnn;have hX := HS.bel;obtain ⟨c0,c1,c2,c3⟩ := prt_cells (Reg.heap_kept_up HB.out hX);clear hI hX;have HS2 := qhid HS;clear HS;unfold Reg.Yields
   go_simp
   exact Reg.GenH.step hnn (by decide) (fun _ _ => rfl) rfl (HS2.out.up (by simp) (altQ_up _ _ _ _) (Below.refl _ _))
  refine ⟨fun gh listed A X hI hcl hin hun hall => ⟨Reg.wanted_none rfl,?_⟩,?_⟩
  ·have e11 : A.tmps[11]? = some (.int .i64 a.void) := hI.ev (i := 6) (d := 11) (by rfl) (hall ⟨6,.data⟩ (by simp) rfl);have e13 : A.tmps[13]? = some (.int .i64 b.void) := hI.ev (i := 8) (d := 13) (by rfl) (hall ⟨8,.data⟩ (by simp) rfl);have hnn := Reg.un_of_reach hcl (n := 30) (i := 9) (by kernel_rfl) (by simpa using hun);have HS := hI.st.ahead hnn;have hX := HS.bel;clear hI hX;have HS2 := qhid HS;clear HS;unfold Reg.Yields
   go_simp
   exact Reg.GenH.step (g' := Reg.updP gh 9 (some X.heap.size)) hnn (by decide) (fun j hj => altT_9 (fun e => by rw [e] at hj;rw [hj] at hun;cases hun)) rfl (HS2.out.new _ (altQ_up _ _ _ _) (below1 _ _) ⟨_,rfl,heap_new _ _⟩)
  refine ⟨fun gh listed A X hI hcl hin hun hall => ⟨Reg.wanted_none rfl,?_⟩,?_⟩
  ·have e14 : A.tmps[14]? = some (.slice ((gh 9).map fun b => ⟨b,0,none⟩) 2 2) := hI.ev (i := 9) (d := 14) (by rfl) (hall ⟨9,.data⟩ (by simp) rfl);have hnn := Reg.un_of_reach hcl (n := 30) (i := 10) (by kernel_rfl) (by simpa using hun);have HS := hI.st.ahead hnn;have hX := HS.bel;obtain ⟨bb,hbb,hb2⟩ := HS.at_ 9 (by simp) (hall ⟨9,.data⟩ (by simp) rfl);rw [hbb] at e14;have HM := qhid (add2_any bb a.void b.void X HOA.out.void HOB.out.void hb2);clear hb2 hbb;clear hI hX;have HS2 := qhid HS;clear HS;unfold Reg.Yields
   go_simp
   exact HM.out.mono fun e w2 ⟨he,hw⟩ => ⟨_,he,by rw [hw];exact Reg.GenH.step hnn (by decide) (fun _ _ => rfl) rfl (HS2.out.up (by simp) (altQ_up _ _ _ _) (Below.refl _ _))⟩
  refine ⟨fun gh listed A X hI hcl hin hun hall => ⟨Reg.wanted_none rfl,?_⟩,?_⟩
  ·have e2 := hI.evo (d := 2) (by kernel_rfl) rfl;have hnn := Reg.un_of_reach hcl (n := 30) (i := 11) (by kernel_rfl) (by simpa using hun);have HS := hI.st.ahead hnn;have hX := HS.bel;clear hI hX;have HS2 := qhid HS;clear HS;unfold Reg.Yields
   go_simp
   exact Reg.GenH.step hnn (by decide) (fun _ _ => rfl) rfl (HS2.out.up (by simp) (altQ_up _ _ _ _) (Below.refl _ _))
  refine ⟨fun gh listed A X hI hcl hin hun hall => ⟨Reg.wanted_none rfl,?_⟩,?_⟩
  ·have e16 : A.tmps[16]? = some (.pointer (some ⟨w.heap.size,2,none⟩)) := hI.ev (i := 11) (d := 16) (by rfl) (hall ⟨11,.data⟩ (by simp) rfl);have hnn := Reg.un_of_reach hcl (n := 30) (i := 12) (by kernel_rfl) (by simpa using hun);have HS := hI.st.ahead hnn;have hX := HS.bel;obtain ⟨c0,c1,c2,c3⟩ := prt_cells (Reg.heap_kept_up HA.out hX);clear hI hX;have HS2 := qhid HS;clear HS;unfold Reg.Yields
   go_simp
   exact Reg.GenH.step hnn (by decide) (fun _ _ => rfl) rfl (HS2.out.up (by simp) (altQ_up _ _ _ _) (Below.refl _ _))
  refine ⟨fun gh listed A X hI hcl hin hun hall => ⟨Reg.wanted_none rfl,?_⟩,?_⟩
  ·have e17 : A.tmps[17]? = some (.map ma) := hI.ev (i := 12) (d := 17) (by rfl) (hall ⟨12,.data⟩ (by simp) rfl);have hnn := Reg.un_of_reach hcl (n := 30) (i := 13) (by kernel_rfl) (by simpa using hun);have HS := hI.st.ahead hnn;have hX := HS.bel;clear hI hX;have HS2 := qhid HS;clear HS;unfold Reg.Yields
   go_simp
   exact Reg.GenH.step hnn (by decide) (fun _ _ => rfl) rfl (HS2.out.up (by simp) (altQ_up _ _ _ _) (Below.refl _ _))
  refine ⟨fun gh listed A X hI hcl hin hun hall => ⟨Reg.wanted_none rfl,?_⟩,?_⟩
  ·have e3 := hI.evo (d := 3) (by kernel_rfl) rfl;have hnn := Reg.un_of_reach hcl (n := 30) (i := 14) (by kernel_rfl) (by simpa using hun);have HS := hI.st.ahead hnn;have hX := HS.bel;clear hI hX;have HS2 := qhid HS;clear HS;unfold Reg.Yields
   go_simp
   exact Reg.GenH.step hnn (by decide) (fun _ _ => rfl) rfl (HS2.out.up (by simp) (altQ_up _ _ _ _) (Below.refl _ _))
  refine ⟨fun gh listed A X hI hcl hin hun hall => ⟨Reg.wanted_none rfl,?_⟩,?_⟩
  ·have e19 : A.tmps[19]? = some (.pointer (some ⟨(w.heap.size + 1),2,none⟩)) := hI.ev (i := 14) (d := 19) (by rfl) (hall ⟨14,.data⟩ (by simp) rfl);have hnn := Reg.un_of_reach hcl (n := 30) (i := 15) (by kernel_rfl) (by simpa using hun);have HS := hI.st.ahead hnn;have hX := HS.bel;obtain ⟨c0,c1,c2,c3⟩ := prt_cells (Reg.heap_kept_up HB.out hX);clear hI hX;have HS2 := qhid HS;clear HS;unfold Reg.Yields
   go_simp
   exact Reg.GenH.step hnn (by decide) (fun _ _ => rfl) rfl (HS2.out.up (by simp) (altQ_up _ _ _ _) (Below.refl _ _))
  refine ⟨fun gh listed A X hI hcl hin hun hall => ⟨Reg.wanted_none rfl,?_⟩,?_⟩
  ·have e2 := hI.evo (d := 2) (by kernel_rfl) rfl;have hnn := Reg.un_of_reach hcl (n := 30) (i := 16) (by kernel_rfl) (by simpa using hun);have HS := hI.st.ahead hnn;have hX := HS.bel;clear hI hX;have HS2 := qhid HS;clear HS;unfold Reg.Yields
   go_simp
   exact Reg.GenH.step hnn (by decide) (fun _ _ => rfl) rfl (HS2.out.up (by simp) (altQ_up _ _ _ _) (Below.refl _ _))
  refine ⟨fun gh listed A X hI hcl hin hun hall => ⟨Reg.wanted_none rfl,?_⟩,?_⟩
  ·have e21 : A.tmps[21]? = some (.pointer (some ⟨w.heap.size,0,none⟩)) := hI.ev (i := 16) (d := 21) (by rfl) (hall ⟨16,.data⟩ (by simp) rfl);have hnn := Reg.un_of_reach hcl (n := 30) (i := 17) (by kernel_rfl) (by simpa using hun);have HS := hI.st.ahead hnn;have hX := HS.bel;obtain ⟨c0,c1,c2,c3⟩ := prt_cells (Reg.heap_kept_up HA.out hX);clear hI hX;have HS2 := qhid HS;clear HS;unfold Reg.Yields
   go_simp
   exact Reg.GenH.step hnn (by decide) (fun _ _ => rfl) rfl (HS2.out.up (by simp) (altQ_up _ _ _ _) (Below.refl _ _))
  refine ⟨fun gh listed A X hI hcl hin hun hall => ⟨Reg.wanted_none rfl,?_⟩,?_⟩
  ·have e20 : A.tmps[20]? = some (.map mb) := hI.ev (i := 15) (d := 20) (by rfl) (hall ⟨15,.data⟩ (by simp) rfl);have e22 : A.tmps[22]? = some (.int .i64 (a.places : Int)) := hI.ev (i := 17) (d := 22) (by rfl) (hall ⟨17,.data⟩ (by simp) rfl);have hnn := Reg.un_of_reach hcl (n := 30) (i := 18) (by kernel_rfl) (by simpa using hun);have HS := hI.st.ahead hnn;have hX := HS.bel;clear hI hX;have HS2 := qhid HS;clear HS;unfold Reg.Yields
   go_simp
   exact Reg.GenH.step hnn (by decide) (fun _ _ => rfl) rfl (HS2.out.up (by simp) (altQ_up _ _ _ _) (Below.refl _ _))
  refine ⟨fun gh listed A X hI hcl hin hun hall => ⟨Reg.wanted_none rfl,?_⟩,?_⟩
  ·have e18 : A.tmps[18]? = some (.agg #[.map ma,.int .i64 1,.int .i64 0]) := hI.ev (i := 13) (d := 18) (by rfl) (hall ⟨13,.data⟩ (by simp) rfl);have e23 : A.tmps[23]? = some (.agg #[.map mb,.int .i64 1,.int .i64 (a.places : Int)]) := hI.ev (i := 18) (d := 23) (by rfl) (hall ⟨18,.data⟩ (by simp) rfl);have hnn := Reg.un_of_reach hcl (n := 30) (i := 19) (by kernel_rfl) (by simpa using hun);have HS := hI.st.ahead hnn;have hX := HS.bel;have HM := qhid (sum_any X _ _ a.first b.first a.places b.places 1 1 0 a.places (HMA.out.up (HBW.out.trans (hX.mono HBW.out.size))) (HMB.out.up (HBW.out.trans (hX.mono HBW.out.size))) HOA.out.first HOB.out.first (by have := HNA.out;have := HNB.out;omega) ⟨by omega,by unfold top;omega⟩ ⟨by omega,by unfold top;omega⟩);rw [tm_one HOA.out.first] at HM;clear hI hX;have HS2 := qhid HS;clear HS;unfold Reg.Yields
   go_simp
   refine HM.out.mono ?_;rintro e w2 ⟨m',he,hv,hb⟩;exact ⟨_,he,Reg.GenH.step (g' := Reg.updP gh 19 m') hnn (by decide) (fun j hj => altT_19 (fun e => by rw [e] at hj;rw [hj] at hun;cases hun) (fun e => by rw [e] at hj;rw [Reg.closed_reach hcl 60 29 19 (by kernel_rfl) hj] at hun;cases hun)) rfl (HS2.out.new _ (altQ_up _ _ _ _) hb hv)⟩
  refine ⟨fun gh listed A X hI hcl hin hun hall => ⟨Reg.wanted_none rfl,?_⟩,?_⟩
  ·have e2 := hI.evo (d := 2) (by kernel_rfl) rfl;have hnn := Reg.un_of_reach hcl (n := 30) (i := 20) (by kernel_rfl) (by simpa using hun);have HS := hI.st.ahead hnn;have hX := HS.bel;clear hI hX;have HS2 := qhid HS;clear HS;unfold Reg.Yields
   go_simp
   exact Reg.GenH.step hnn (by decide) (fun _ _ => rfl) rfl (HS2.out.up (by simp) (altQ_up _ _ _ _) (Below.refl _ _))
  refine ⟨fun gh listed A X hI hcl hin hun hall => ⟨Reg.wanted_none rfl,?_⟩,?_⟩
  ·have e25 : A.tmps[25]? = some (.pointer (some ⟨w.heap.size,3,none⟩)) := hI.ev (i := 20) (d := 25) (by rfl) (hall ⟨20,.data⟩ (by simp) rfl);have hnn := Reg.un_of_reach hcl (n := 30) (i := 21) (by kernel_rfl) (by simpa using hun);have HS := hI.st.ahead hnn;have hX := HS.bel;obtain ⟨c0,c1,c2,c3⟩ := prt_cells (Reg.heap_kept_up HA.out hX);clear hI hX;have HS2 := qhid HS;clear HS;unfold Reg.Yields
   go_simp
   exact Reg.GenH.step hnn (by decide) (fun _ _ => rfl) rfl (HS2.out.up (by simp) (altQ_up _ _ _ _) (Below.refl _ _))
  refine ⟨fun gh listed A X hI hcl hin hun hall => ⟨Reg.wanted_none rfl,?_⟩,?_⟩
  ·have e26 : A.tmps[26]? = some (.map ka) := hI.ev (i := 21) (d := 26) (by rfl) (hall ⟨21,.data⟩ (by simp) rfl);have hnn := Reg.un_of_reach hcl (n := 30) (i := 22) (by kernel_rfl) (by simpa using hun);have HS := hI.st.ahead hnn;have hX := HS.bel;clear hI hX;have HS2 := qhid HS;clear HS;unfold Reg.Yields
   go_simp
   exact Reg.GenH.step hnn (by decide) (fun _ _ => rfl) rfl (HS2.out.up (by simp) (altQ_up _ _ _ _) (Below.refl _ _))
  refine ⟨fun gh listed A X hI hcl hin hun hall => ⟨Reg.wanted_none rfl,?_⟩,?_⟩
  ·have e3 := hI.evo (d := 3) (by kernel_rfl) rfl;have hnn := Reg.un_of_reach hcl (n := 30) (i := 23) (by kernel_rfl) (by simpa using hun);have HS := hI.st.ahead hnn;have hX := HS.bel;clear hI hX;have HS2 := qhid HS;clear HS;unfold Reg.Yields
   go_simp
   exact Reg.GenH.step hnn (by decide) (fun _ _ => rfl) rfl (HS2.out.up (by simp) (altQ_up _ _ _ _) (Below.refl _ _))
  refine ⟨fun gh listed A X hI hcl hin hun hall => ⟨Reg.wanted_none rfl,?_⟩,?_⟩
  ·have e28 : A.tmps[28]? = some (.pointer (some ⟨(w.heap.size + 1),3,none⟩)) := hI.ev (i := 23) (d := 28) (by rfl) (hall ⟨23,.data⟩ (by simp) rfl);have hnn := Reg.un_of_reach hcl (n := 30) (i := 24) (by kernel_rfl) (by simpa using hun);have HS := hI.st.ahead hnn;have hX := HS.bel;obtain ⟨c0,c1,c2,c3⟩ := prt_cells (Reg.heap_kept_up HB.out hX);clear hI hX;have HS2 := qhid HS;clear HS;unfold Reg.Yields
   go_simp
   exact Reg.GenH.step hnn (by decide) (fun _ _ => rfl) rfl (HS2.out.up (by simp) (altQ_up _ _ _ _) (Below.refl _ _))
  refine ⟨fun gh listed A X hI hcl hin hun hall => ⟨Reg.wanted_none rfl,?_⟩,?_⟩
  ·have e2 := hI.evo (d := 2) (by kernel_rfl) rfl;have hnn := Reg.un_of_reach hcl (n := 30) (i := 25) (by kernel_rfl) (by simpa using hun);have HS := hI.st.ahead hnn;have hX := HS.bel;clear hI hX;have HS2 := qhid HS;clear HS;unfold Reg.Yields
   go_simp
   exact Reg.GenH.step hnn (by decide) (fun _ _ => rfl) rfl (HS2.out.up (by simp) (altQ_up _ _ _ _) (Below.refl _ _))
  refine ⟨fun gh listed A X hI hcl hin hun hall => ⟨Reg.wanted_none rfl,?_⟩,?_⟩
  ·have e30 : A.tmps[30]? = some (.pointer (some ⟨w.heap.size,0,none⟩)) := hI.ev (i := 25) (d := 30) (by rfl) (hall ⟨25,.data⟩ (by simp) rfl);have hnn := Reg.un_of_reach hcl (n := 30) (i := 26) (by kernel_rfl) (by simpa using hun);have HS := hI.st.ahead hnn;have hX := HS.bel;obtain ⟨c0,c1,c2,c3⟩ := prt_cells (Reg.heap_kept_up HA.out hX);clear hI hX;have HS2 := qhid HS;clear HS;unfold Reg.Yields
   go_simp
   exact Reg.GenH.step hnn (by decide) (fun _ _ => rfl) rfl (HS2.out.up (by simp) (altQ_up _ _ _ _) (Below.refl _ _))
  refine ⟨fun gh listed A X hI hcl hin hun hall => ⟨Reg.wanted_none rfl,?_⟩,?_⟩
  ·have e29 : A.tmps[29]? = some (.map kb) := hI.ev (i := 24) (d := 29) (by rfl) (hall ⟨24,.data⟩ (by simp) rfl);have e31 : A.tmps[31]? = some (.int .i64 (a.places : Int)) := hI.ev (i := 26) (d := 31) (by rfl) (hall ⟨26,.data⟩ (by simp) rfl);have hnn := Reg.un_of_reach hcl (n := 30) (i := 27) (by kernel_rfl) (by simpa using hun);have HS := hI.st.ahead hnn;have hX := HS.bel;clear hI hX;have HS2 := qhid HS;clear HS;unfold Reg.Yields
   go_simp
   exact Reg.GenH.step hnn (by decide) (fun _ _ => rfl) rfl (HS2.out.up (by simp) (altQ_up _ _ _ _) (Below.refl _ _))
  refine ⟨fun gh listed A X hI hcl hin hun hall => ⟨Reg.wanted_none rfl,?_⟩,?_⟩
  ·have e27 : A.tmps[27]? = some (.agg #[.map ka,.int .i64 1,.int .i64 0]) := hI.ev (i := 22) (d := 27) (by rfl) (hall ⟨22,.data⟩ (by simp) rfl);have e32 : A.tmps[32]? = some (.agg #[.map kb,.int .i64 1,.int .i64 (a.places : Int)]) := hI.ev (i := 27) (d := 32) (by rfl) (hall ⟨27,.data⟩ (by simp) rfl);have hnn := Reg.un_of_reach hcl (n := 30) (i := 28) (by kernel_rfl) (by simpa using hun);have HS := hI.st.ahead hnn;have hX := HS.bel;have HM := qhid (sum_any X _ _ a.last b.last a.places b.places 1 1 0 a.places (HKA.out.up (HBW.out.trans (hX.mono HBW.out.size))) (HKB.out.up (HBW.out.trans (hX.mono HBW.out.size))) HOA.out.last HOB.out.last (by have := HNA.out;have := HNB.out;omega) ⟨by omega,by unfold top;omega⟩ ⟨by omega,by unfold top;omega⟩);rw [tm_one HOA.out.last] at HM;clear hI hX;have HS2 := qhid HS;clear HS;unfold Reg.Yields
   go_simp
   refine HM.out.mono ?_;rintro e w2 ⟨m',he,hv,hb⟩;exact ⟨_,he,Reg.GenH.step (g' := Reg.updP gh 28 m') hnn (by decide) (fun j hj => altT_28 (fun e => by rw [e] at hj;rw [hj] at hun;cases hun) (fun e => by rw [e] at hj;rw [Reg.closed_reach hcl 60 29 28 (by kernel_rfl) hj] at hun;cases hun)) rfl (HS2.out.new _ (altQ_up _ _ _ _) hb hv)⟩
  refine ⟨fun gh listed A X hI hcl hin hun hall => ⟨Reg.wanted_none rfl,?_⟩,?_⟩
  ·have e9 : A.tmps[9]? = some (.int .i64 ((a.places : Int) + (b.places : Int))) := hI.ev (i := 4) (d := 9) (by rfl) (hall ⟨4,.data⟩ (by simp) rfl);have e15 : A.tmps[15]? = some (.int .i64 (pl a.void b.void)) := hI.ev (i := 10) (d := 15) (by rfl) (hall ⟨10,.data⟩ (by simp) rfl);have e24 : A.tmps[24]? = some (.map (gh 19)) := hI.ev (i := 19) (d := 24) (by rfl) (hall ⟨19,.data⟩ (by simp) rfl);have e33 : A.tmps[33]? = some (.map (gh 28)) := hI.ev (i := 28) (d := 33) (by rfl) (hall ⟨28,.data⟩ (by simp) rfl);have hnn := Reg.un_of_reach hcl (n := 30) (i := 29) (by kernel_rfl) (by simpa using hun);have HS := hI.st.ahead hnn;have hX := HS.bel;clear hI hX;have HS2 := qhid HS;clear HS;unfold Reg.Yields
   go_simp
   exact Reg.GenH.step hnn (by decide) (fun _ _ => rfl) rfl (HS2.out.up (by simp) (altQ_up _ _ _ _) (Below.refl _ _))
  refine ⟨fun gh listed A X hI hcl hin hun hall => ⟨Reg.wanted_none rfl,?_⟩,?_⟩
  ·have e4 := hI.evo (d := 4) (by kernel_rfl) rfl;have e34 : A.tmps[34]? = some (.agg #[.int .i64 ((a.places : Int) + (b.places : Int)),.int .i64 (pl a.void b.void),.map (gh 19),.map (gh 28)]) := hI.ev (i := 29) (d := 34) (by rfl) (hall ⟨29,.data⟩ (by simp) rfl);have hnn : listed.getD 30 false = false := by simpa using hun
   have HS := hI.st.ahead hnn;have hX := HS.bel;have h1 := HS.at_ 19 (by simp) (hall ⟨19,.phase⟩ (by simp) rfl);have h2 := HS.at_ 28 (by simp) (hall ⟨28,.phase⟩ (by simp) rfl);have HH1 : Hid (WtAt X (.map (gh 19)) (smW a.first (tmW b.first 1 a.places))) := qhid h1;have HH2 : Hid (WtAt X (.map (gh 28)) (smW a.last (tmW b.last 1 a.places))) := qhid h2;obtain ⟨c0,c1,c2,c3⟩ := prt_cells (Reg.heap_kept_up HR.out hX);obtain ⟨f0,f1,f2,f3⟩ := prt_unfrozen (Reg.heap_kept_up HR.out hX);have HRX := qhid (Reg.heap_kept_up HR.out hX);clear h1 h2;clear hI hX;have HS2 := qhid HS;clear HS;unfold Reg.Yields
   go_simp
   have hbb := put4_below (HBW.out.trans (HS2.out.bel.mono HBW.out.size)) (b := w.heap.size + 2) (by omega) (.int .i64 ((a.places : Int) + (b.places : Int))) (.int .i64 (pl a.void b.void)) (.map (gh 19)) (.map (gh 28));have hpp := put4_at HRX.out (.int .i64 ((a.places : Int) + (b.places : Int))) (.int .i64 (pl a.void b.void)) (.map (gh 19)) (.map (gh 28));exact Reg.GenH.put hin rfl ⟨hbb,hpp,wt_put4 HH1.out HRX.out _ _ _ _,wt_put4 HH2.out HRX.out _ _ _ _⟩
  trivial
 ·intro gh X hS;obtain ⟨h1,h2,h3,h4⟩ := hS.done (by rfl);clear hS;have H1 := qhid h1;obtain ⟨c0,c1,c2,c3⟩ := prt_cells h2;have H3 := qhid h3;have H4 := qhid h4;clear h1 h2 h3 h4;simp [Reg.finalTmps,Reg.dstAt,Reg.valOf,altT]
  go_wp2_with fail
  refine bodyPost_ret (v := .agg #[.int .i64 ((a.places : Int) + (b.places : Int)),.int .i64 (pl a.void b.void),.map (gh 19),.map (gh 28)]) (by simp [results,Tryz.results250,go_sem,c0,c1,c2,c3]) rfl ⟨gh 19,gh 28,?_,H3.out,H4.out,H1.out⟩;rw [show (altP a b).places = a.places + b.places from rfl,Int.natCast_add];rfl
end
end Go.Proofs.YtnmalggmbeipaaaGreatDoor
