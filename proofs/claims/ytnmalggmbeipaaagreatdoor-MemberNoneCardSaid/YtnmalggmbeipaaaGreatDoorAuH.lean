/- A part of the proof. -/
import Derived.Test.YtnmalggmbeipaaaGreatDoorAuF
import Derived.Lib.SliceRun
set_option maxRecDepth 100000
set_option maxHeartbeats 16000000
namespace Go.Proofs.YtnmalggmbeipaaaGreatDoor
section
section
open Go Go.RowKit
attribute [local go_sem ↓] Go.wp_at_zero Go.wp_at_succ
attribute [local go_sem] eq4
def dt5 (acc : Int) (g g2 n c1 c2 k : Nat) (u v : Wts) (_ : Nat -> Value) : Nat -> Value
 | 0 => .int .i64 acc
 | 1 => .slice (some ⟨g,0,none⟩) n c1
 | 2 => .int .i64 (k : Int)
 | 3 => .pointer (some ⟨g,k,none⟩)
 | 4 => .int .i64 (u k)
 | 5 => .slice (some ⟨g2,0,none⟩) n c2
 | 6 => .int .i64 (k : Int)
 | 7 => .pointer (some ⟨g2,k,none⟩)
 | 8 => .int .i64 (v k)
 | 9 => .int .i64 (ti (u k) (v k))
 | 10 => .int .i64 (pl acc (ti (u k) (v k)))
 | 11 => .int .i64 (pl acc (ti (u k) (v k)))
 | _ => undef
theorem dot_any (w : World) (g g2 n c1 c2 : Nat) (hn : n <= 100000) (u v : Wts) (hu : VecI w g n u) (hv : VecI w g2 n v) (hlu : LeV u) (hlv : LeV v) : Calls Tryz.prog 117 #[.slice (some ⟨g,0,none⟩) n c1,.slice (some ⟨g2,0,none⟩) n c2] w fun e w' => e = .returned (.int .i64 (dotA u v n)) /\ Below w.heap.size w w' := by
 have HU := qhid hu;have HV := qhid hv;have HLU := qhid hlu;have HLV := qhid hlv;clear hu hv hlu hlv
 go_enter Tryz.func117,Tryz.ntmps117
 go_wp2_with fail
 go_loopw [5,12] (fun a i wr => ∃ k : Nat,k <= n /\ i = .int .i64 (k : Int) /\ Hid (a = .int .i64 (dotA u v k)) /\ Hid (Below w.heap.size w wr)) (fun _ i _ => n - (intOf i).toNat)
 case atStart => exact ⟨0,Nat.zero_le _,rfl,qhid rfl,qhid (Below.refl _ _)⟩
 case round =>
  obtain ⟨k,hkn,rfl,HAC0,HBR⟩ := hrel
  by_cases hlt : k < n
  ·have HKN := qhid hlt;obtain ⟨acc,hac⟩ : ∃ a,a = dotA u v k := ⟨_,rfl⟩;have ha := HAC0.out;rw [<- hac] at ha;subst ha;have HAC : Hid (acc <= top) := qhid (by rw [hac];exact dotA_le _ _ _);have HAE : Hid (dotA u v (k + 1) = pl acc (ti (u k) (v k))) := qhid (by rw [hac];rfl);clear hac HAC0
   go_upto_region 5 with fail
   refine Reg.wp_region_H (dt5 acc g g2 n c1 c2 k u v) (Reg.MkP wr [] (fun _ _ _ => True)) (fun _ => undef) [0,1,2,3,4,5,6,7,8,9,10,11] (by rfl) (by kernel_rfl) (by kernel_rfl) ?_ ?_ ?_
   ·exact Reg.MkP.start _ _
   ·refine ⟨fun gh listed A X hI hcl hin hun hall => ⟨Reg.wanted_none rfl,?_⟩,?_⟩
    ·have e5 := hI.evn (d := 5) (j := 11) (by kernel_rfl) (Reg.un_of_reach hcl (n := 11) (i := 0) (by kernel_rfl) (by simpa using hun)) rfl;have HS := hI.st;have hR := HS;have hX := hR.bel;clear hI;have HS2 := qhid HS;clear HS hR hX;unfold Reg.Yields
     go_simp
     first | exact ⟨gh,fun _ _ => rfl,rfl,HS2.out.up (by simp) unit_up (Below.refl _ _)⟩ | exact ⟨rfl,gh,fun _ _ => rfl,rfl,HS2.out.up (by simp) unit_up (Below.refl _ _)⟩
    refine ⟨fun gh listed A X hI hcl hin hun hall => ⟨Reg.wanted_none rfl,?_⟩,?_⟩
    ·have e0 := hI.evo (d := 0) (by kernel_rfl) rfl;have HS := hI.st;have hR := HS;have hX := hR.bel;clear hI;have HS2 := qhid HS;clear HS hR hX;unfold Reg.Yields
     go_simp
     first | exact ⟨gh,fun _ _ => rfl,rfl,HS2.out.up (by simp) unit_up (Below.refl _ _)⟩ | exact ⟨rfl,gh,fun _ _ => rfl,rfl,HS2.out.up (by simp) unit_up (Below.refl _ _)⟩
    refine ⟨fun gh listed A X hI hcl hin hun hall => ⟨Reg.wanted_none rfl,?_⟩,?_⟩
    ·have e6 := hI.evo (d := 6) (by kernel_rfl) rfl;have HS := hI.st;have hR := HS;have hX := hR.bel;clear hI;have HS2 := qhid HS;clear HS hR hX;unfold Reg.Yields
     go_simp
     first | exact ⟨gh,fun _ _ => rfl,rfl,HS2.out.up (by simp) unit_up (Below.refl _ _)⟩ | exact ⟨rfl,gh,fun _ _ => rfl,rfl,HS2.out.up (by simp) unit_up (Below.refl _ _)⟩
    refine ⟨fun gh listed A X hI hcl hin hun hall => ⟨Reg.wanted_none rfl,?_⟩,?_⟩
    ·have e16 : A.tmps[16]? = some (.slice (some ⟨g,0,none⟩) n c1) := hI.ev (i := 1) (d := 16) (by rfl) (hall ⟨1,.data⟩ (by simp) rfl);have e17 : A.tmps[17]? = some (.int .i64 (k : Int)) := hI.ev (i := 2) (d := 17) (by rfl) (hall ⟨2,.data⟩ (by simp) rfl);have HS := hI.st;have hR := HS;have hX := hR.bel;have hkn := HKN.out;clear hI;have HS2 := qhid HS;clear HS hR hX;unfold Reg.Yields
     go_simp
     first | exact ⟨gh,fun _ _ => rfl,rfl,HS2.out.up (by simp) unit_up (Below.refl _ _)⟩ | exact ⟨rfl,gh,fun _ _ => rfl,rfl,HS2.out.up (by simp) unit_up (Below.refl _ _)⟩
    refine ⟨fun gh listed A X hI hcl hin hun hall => ⟨Reg.wanted_none rfl,?_⟩,?_⟩
    ·have e18 : A.tmps[18]? = some (.pointer (some ⟨g,k,none⟩)) := hI.ev (i := 3) (d := 18) (by rfl) (hall ⟨3,.data⟩ (by simp) rfl);have HS := hI.st;have hR := HS;have hX := hR.bel;have hc := (HU.out.up (HBR.out.trans (hX.mono HBR.out.size))).cell HKN.out;clear hI;have HS2 := qhid HS;clear HS hR hX;unfold Reg.Yields
     go_simp
     first | exact ⟨gh,fun _ _ => rfl,rfl,HS2.out.up (by simp) unit_up (Below.refl _ _)⟩ | exact ⟨rfl,gh,fun _ _ => rfl,rfl,HS2.out.up (by simp) unit_up (Below.refl _ _)⟩
    refine ⟨fun gh listed A X hI hcl hin hun hall => ⟨Reg.wanted_none rfl,?_⟩,?_⟩
    ·have e1 := hI.evo (d := 1) (by kernel_rfl) rfl;have HS := hI.st;have hR := HS;have hX := hR.bel;clear hI;have HS2 := qhid HS;clear HS hR hX;unfold Reg.Yields
     go_simp
     first | exact ⟨gh,fun _ _ => rfl,rfl,HS2.out.up (by simp) unit_up (Below.refl _ _)⟩ | exact ⟨rfl,gh,fun _ _ => rfl,rfl,HS2.out.up (by simp) unit_up (Below.refl _ _)⟩
    refine ⟨fun gh listed A X hI hcl hin hun hall => ⟨Reg.wanted_none rfl,?_⟩,?_⟩
    ·have e6 := hI.evo (d := 6) (by kernel_rfl) rfl;have HS := hI.st;have hR := HS;have hX := hR.bel;clear hI;have HS2 := qhid HS;clear HS hR hX;unfold Reg.Yields
     go_simp
     first | exact ⟨gh,fun _ _ => rfl,rfl,HS2.out.up (by simp) unit_up (Below.refl _ _)⟩ | exact ⟨rfl,gh,fun _ _ => rfl,rfl,HS2.out.up (by simp) unit_up (Below.refl _ _)⟩
    refine ⟨fun gh listed A X hI hcl hin hun hall => ⟨Reg.wanted_none rfl,?_⟩,?_⟩
    ·have e20 : A.tmps[20]? = some (.slice (some ⟨g2,0,none⟩) n c2) := hI.ev (i := 5) (d := 20) (by rfl) (hall ⟨5,.data⟩ (by simp) rfl);have e21 : A.tmps[21]? = some (.int .i64 (k : Int)) := hI.ev (i := 6) (d := 21) (by rfl) (hall ⟨6,.data⟩ (by simp) rfl);have HS := hI.st;have hR := HS;have hX := hR.bel;have hkn := HKN.out;clear hI;have HS2 := qhid HS;clear HS hR hX;unfold Reg.Yields
     go_simp
     first | exact ⟨gh,fun _ _ => rfl,rfl,HS2.out.up (by simp) unit_up (Below.refl _ _)⟩ | exact ⟨rfl,gh,fun _ _ => rfl,rfl,HS2.out.up (by simp) unit_up (Below.refl _ _)⟩
    refine ⟨fun gh listed A X hI hcl hin hun hall => ⟨Reg.wanted_none rfl,?_⟩,?_⟩
    ·have e22 : A.tmps[22]? = some (.pointer (some ⟨g2,k,none⟩)) := hI.ev (i := 7) (d := 22) (by rfl) (hall ⟨7,.data⟩ (by simp) rfl);have HS := hI.st;have hR := HS;have hX := hR.bel;have hc := (HV.out.up (HBR.out.trans (hX.mono HBR.out.size))).cell HKN.out;clear hI;have HS2 := qhid HS;clear HS hR hX;unfold Reg.Yields
     go_simp
     first | exact ⟨gh,fun _ _ => rfl,rfl,HS2.out.up (by simp) unit_up (Below.refl _ _)⟩ | exact ⟨rfl,gh,fun _ _ => rfl,rfl,HS2.out.up (by simp) unit_up (Below.refl _ _)⟩
    refine ⟨fun gh listed A X hI hcl hin hun hall => ⟨Reg.wanted_none rfl,?_⟩,?_⟩
    ·have e19 : A.tmps[19]? = some (.int .i64 (u k)) := hI.ev (i := 4) (d := 19) (by rfl) (hall ⟨4,.data⟩ (by simp) rfl);have e23 : A.tmps[23]? = some (.int .i64 (v k)) := hI.ev (i := 8) (d := 23) (by rfl) (hall ⟨8,.data⟩ (by simp) rfl);have HS := hI.st;have hR := HS;have hX := hR.bel;have HM := qhid (times_any (u k) (v k) X (HLU.out k).2 (HLV.out k).2);clear hI;have HS2 := qhid HS;clear HS hR hX;unfold Reg.Yields
     go_simp
     exact HM.out.mono fun e w2 ⟨he,hw⟩ => ⟨_,he,gh,fun _ _ => rfl,rfl,by rw [<- hw];exact HS2.out.up (by simp) unit_up (Below.refl _ _)⟩
    refine ⟨fun gh listed A X hI hcl hin hun hall => ⟨Reg.wanted_none rfl,?_⟩,?_⟩
    ·have e15 : A.tmps[15]? = some (.int .i64 acc) := hI.ev (i := 0) (d := 15) (by rfl) (hall ⟨0,.data⟩ (by simp) rfl);have e24 : A.tmps[24]? = some (.int .i64 (ti (u k) (v k))) := hI.ev (i := 9) (d := 24) (by rfl) (hall ⟨9,.data⟩ (by simp) rfl);have HS := hI.st;have hR := HS;have hX := hR.bel;have HM := qhid (plus_any acc (ti (u k) (v k)) X HAC.out (ti_le _ _));clear hI;have HS2 := qhid HS;clear HS hR hX;unfold Reg.Yields
     go_simp
     exact HM.out.mono fun e w2 ⟨he,hw⟩ => ⟨_,he,gh,fun _ _ => rfl,rfl,by rw [hw];exact HS2.out.up (by simp) unit_up (Below.refl _ _)⟩
    refine ⟨fun gh listed A X hI hcl hin hun hall => ⟨Reg.wanted_none rfl,?_⟩,?_⟩
    ·have e25 : A.tmps[25]? = some (.int .i64 (pl acc (ti (u k) (v k)))) := hI.ev (i := 10) (d := 25) (by rfl) (hall ⟨10,.data⟩ (by simp) rfl);have HS := hI.st;have hR := HS;have hX := hR.bel;clear hI;have HS2 := qhid HS;clear HS hR hX;unfold Reg.Yields
     go_simp
     first | exact ⟨gh,fun _ _ => rfl,rfl,HS2.out.up (by simp) unit_up (Below.refl _ _)⟩ | exact ⟨rfl,gh,fun _ _ => rfl,rfl,HS2.out.up (by simp) unit_up (Below.refl _ _)⟩
    trivial
   ·intro gh X hS;have HB := qhid hS.bel;clear hS;simp [Reg.finalTmps,Reg.dstAt,Reg.valOf,dt5];have HB6 := qhid (HBR.out.trans (HB.out.mono HBR.out.size));clear HB
    go_wp2_with fail
    go_roundw
    case rel => exact ⟨k + 1,by omega,by go_num,qhid (by rw [HAE.out]),HB6⟩
    case measure => simp [intOf];omega
  ·obtain rfl : k = n := by omega
   have ha := HAC0.out;subst ha
   go_wp2_with fail
   exact bodyPost_ret (v := .int .i64 (dotA u v k)) (by simp [results,Tryz.results117,go_sem]) rfl ⟨rfl,HBR.out⟩
theorem bool_ne2 : 60 ≠ 3 := by decide
theorem zeroI2 (w : World) : (zeroValue 3).run Tryz.prog w = .ok (.int .i64 0) w := by kernel_rfl
theorem setCells_vec {g n : Nat} : ∀ (m o : Nat) (w : World) (f : Wts),VecI w g n f -> VecI (w.setCells g o (List.replicate m (.int .i64 0))) g n (fun i => if o <= i /\ i < o + m then 0 else f i) /\ w.grownBy (w.setCells g o (List.replicate m (.int .i64 0))) (some g)
 | 0,o,w,f,h => ⟨by
   have e : (fun i => if o <= i /\ i < o + 0 then (0 : Int) else f i) = f := by
    funext i;rw [if_neg (by omega)]
   rw [e]
   exact h,grown_below _ (Below.refl _ _)⟩
 | m + 1,o,w,f,h => by
  have h1 := Joins.block_setCell (i := o) h (.int .i64 0);rw [vlI_set] at h1;obtain ⟨h2,h3⟩ := setCells_vec m (o + 1) (w.setCell ⟨g,o,none⟩ (.int .i64 0)) _ h1;refine ⟨?_,(set_only w g o _).trans h3⟩
  have e : (fun i => if o + 1 <= i /\ i < o + 1 + m then (0 : Int) else if i = o then 0 else f i) = fun i => if o <= i /\ i < o + (m + 1) then 0 else f i := by
   funext i
   by_cases h1 : o + 1 <= i /\ i < o + 1 + m
   ·rw [if_pos h1,if_pos (by omega)]
   ·rw [if_neg h1]
    by_cases h2 : i = o
    ·rw [if_pos h2,if_pos (by omega)]
    ·rw [if_neg h2,if_neg (by omega)]
  rw [e] at h2;exact h2
theorem clear_vec {w : World} {g n : Nat} {f : Wts} (h : VecI w g n f) : ∃ w2,(∀ ty c,(Builtin.clear_ #[60] ty #[.slice (some ⟨g,0,none⟩) n c]).run Tryz.prog w = .ok (.tuple #[]) w2) /\ VecI w2 g n noneW /\ w.grownBy w2 (some g) := by
 by_cases hn : 0 < n
 ·refine ⟨_,fun ty c => Lib.run_clear_slice w 60 3 ty (.int .i64 0) Tryz.underlying60 zeroI2 rfl rfl g 0 n c hn (fun j hj => by rw [Nat.zero_add,h.cell hj];rfl) (fun j _ => jU h _),?_,(setCells_vec n 0 w f h).2⟩;have h2 := (setCells_vec n 0 w f h).1;have e : vlI n (fun i => if 0 <= i /\ i < 0 + n then 0 else f i) = vlI n noneW := vlI_congr fun i hi => by rw [if_pos (by omega)];rfl
  unfold VecI at h2 ⊢;rw [e] at h2;exact h2
 ·obtain rfl : n = 0 := by omega
  refine ⟨w,fun ty c => by simp [Builtin.clear_,run_underlying Tryz.underlying60],?_,grown_below _ (Below.refl _ _)⟩;unfold VecI at h ⊢;rw [h];simp [vlI]
theorem vclo_any (w : World) (xb : Nat) (u : Value) (p : Option Addr) (n cp : Nat) (h : w.heap[xb]? = some (.cells #[u] 60 (0,0))) : Calls Tryz.prog 120 #[.slice p n cp,.pointer (some ⟨xb,0,none⟩)] w fun e w' => e = .returned (.tuple #[]) /\ w' = w.setCell ⟨xb,0,none⟩ (.slice p n cp) := by
 have c0 := (jC h 0).trans rfl;have hfz := jU h 0;clear h
 go_enter Tryz.func120,Tryz.ntmps120
 go_wp2_with fail
 exact bodyPost_end (v := .tuple #[]) (by simp [results,Tryz.results120,go_sem]) rfl ⟨rfl,rfl⟩
structure ThI (w0 : World) (ab xb g1 g2 : Nat) (c : Co) (s : ByteArray) (j : Nat) (X : World) : Prop where
 bel : Below w0.heap.size w0 X
 au : AuAt X ab c
 v1 : VecI X g1 (prtC c).places (vecA c s j)
 v2 : ∃ f,VecI X g2 (prtC c).places f
 ne : g1 ≠ g2
 l1 : w0.heap.size <= g1
 l2 : w0.heap.size <= g2
 box : ∃ gb,X.heap[xb]? = some (.cells #[.slice (some ⟨gb,0,none⟩) (prtC c).places (prtC c).places] 60 (0,0)) /\ VecI X gb (prtC c).places (vecA c s j)
theorem ThI.next {w0 X Y Z U : World} {ab xb g1 g2 j : Nat} {c : Co} {s : ByteArray} (h : ThI w0 ab xb g1 g2 c s j X) (hxb : w0.heap.size <= xb) (hY : X.grownBy Y (some g2)) (hYv : VecI Y g2 (prtC c).places noneW) (hZ : Below Y.heap.size Y Z) (hU : AdI Z g2 (prtC c).places (vecA c s (j + 1)) U) : ThI w0 ab xb g2 g1 c s (j + 1) (U.setCell ⟨xb,0,none⟩ (.slice (some ⟨g2,0,none⟩) (prtC c).places (prtC c).places)) := by
 obtain ⟨f,hf⟩ := h.v2;obtain ⟨gb,hb,_⟩ := h.box;have hY0 := below_grown h.bel hY h.l2;have hZ0 := hY0.trans (hZ.mono hY0.size);have hU0 := below_grown hZ0 hU.gr h.l2;have aZ := (h.au.kt auNe_int hY hf.of).up hZ;have zv := hYv.up hZ;have aU := aZ.kt auNe_int hU.gr zv.of;have v1 := ((h.v1.off hY h.ne).up hZ).off hU.gr h.ne;have bU := block_t (below_kept hZ (block_t hb bool_ne2 hY hf.of)) bool_ne2 hU.gr zv.of;have hof : OfT U (some xb) 60 := fun b e => by rw [<- Option.some.inj e];exact ⟨_,_,bU⟩
 have hs := set_only U xb 0 (.slice (some ⟨g2,0,none⟩) (prtC c).places (prtC c).places);have v2 : VecI (U.setCell ⟨xb,0,none⟩ (.slice (some ⟨g2,0,none⟩) (prtC c).places (prtC c).places)) g2 (prtC c).places (vecA c s (j + 1)) := block_t hU.vec (fun e => bool_ne2 e.symm) hs hof;exact ⟨below_grown hU0 hs hxb,aU.kt auNe_bool.2.2 hs hof,v2,⟨_,block_t v1 (fun e => bool_ne2 e.symm) hs hof⟩,fun e => h.ne e.symm,h.l2,h.l1,g2,(Joins.block_setCell (i := 0) bU _).trans rfl,v2⟩
theorem ThI.xbAt {w0 X Y Z U : World} {ab xb g1 g2 j : Nat} {c : Co} {s : ByteArray} {v : Wts} (h : ThI w0 ab xb g1 g2 c s j X) (hY : X.grownBy Y (some g2)) (hYv : VecI Y g2 (prtC c).places noneW) (hZ : Below Y.heap.size Y Z) (hU : AdI Z g2 (prtC c).places v U) : ∃ u,U.heap[xb]? = some (.cells #[u] 60 (0,0)) := by
 obtain ⟨f,hf⟩ := h.v2;obtain ⟨gb,hb,_⟩ := h.box;exact ⟨_,block_t (below_kept hZ (block_t hb bool_ne2 hY hf.of)) bool_ne2 hU.gr (hYv.up hZ).of⟩
def th7 (ab p2 n fl fc : Nat) (fp : Option Addr) (s : ByteArray) (z : Int) (_ : Nat -> Value) : Nat -> Value
 | 0 => .pointer (some ⟨ab,0,none⟩)
 | 1 => .slice (some ⟨p2,0,none⟩) n n
 | 2 => .pointer (some ⟨ab,0,none⟩)
 | 3 => .pointer (some ⟨ab,0,none⟩)
 | 4 => .pointer (some ⟨ab,2,none⟩)
 | 5 => .slice fp fl fc
 | 6 => .string s
 | 7 => .int .i64 0
 | 8 => .int .u8 z
 | 9 => .tuple #[]
 | _ => undef
theorem authrough_any (w w0 : World) (ab xb gb : Nat) (c : Co) (s : ByteArray) (hs : s.size <= 1000000) (hw : Below w0.heap.size w0 w) (hxb : w0.heap.size <= xb) (ha : AuAt w ab c) (hb : w.heap[xb]? = some (.cells #[.slice (some ⟨gb,0,none⟩) (prtC c).places (prtC c).places] 60 (0,0))) (hv : VecI w gb (prtC c).places noneW) :
  Calls Tryz.prog 119 #[.pointer (some ⟨ab,0,none⟩),.string s,.func (.func 120) #[] #[.pointer (some ⟨xb,0,none⟩)]] w fun e w' => e = .returned (.tuple #[]) /\ ∃ g1 g2,ThI w0 ab xb g1 g2 c s s.size w' := by
 have HZ := qhid (auzero_any w ab c ha);have HA := qhid ha;have HBX := qhid hb;have HV := qhid hv;have HW := qhid hw;have HXB := qhid hxb;have hs2 : s.size <= 9223372036854775807 := by omega
 obtain ⟨n,hn⟩ : ∃ n,n = (prtC c).places := ⟨_,rfl⟩;rw [<- hn] at HZ;have HN := qhid hn;clear ha hb hv hw hxb hn hs
 go_enter Tryz.func119,Tryz.ntmps119
 go_wp2_with fail
 refine HZ.out.mono ?_;rintro e w1 ⟨g1,rfl,hg1,hv1,hb1⟩;have HZ2 := qhid (auzero_any w1 ab c (HA.out.up hb1));rw [<- HN.out] at HZ2;have HG1 := qhid hg1;have HV1 := qhid hv1;have HB1 := qhid hb1;clear hg1 hv1 hb1 HZ
 go_wp2_with fail
 refine HZ2.out.mono ?_;rintro e w2 ⟨g2,rfl,hg2,hv2,hb2⟩
 have HI0 : Hid (ThI w0 ab xb g1 g2 c s 0 w2) := qhid (by
  have hbb := HB1.out.trans (hb2.mono HB1.out.size);have hz := HB1.out.size;have hz0 := HW.out.size;have hlt := jS HV1.out;have e1 := HG1.out;rw [HN.out] at hv2;have hv1 := HV1.out.up hb2;rw [HN.out] at hv1
  exact ⟨HW.out.trans (hbb.mono hz0),HA.out.up hbb,hv1,⟨_,hv2⟩,by omega,by omega,by omega,gb,below_kept hbb HBX.out,HV.out.up hbb⟩)
 clear hg2 hv2 hb2 HZ2 HV1 HG1 HB1 HV HBX
 go_wp2_with fail
 go_loopw [6,7,15] (fun x y i wr => ∃ (j g1 g2 : Nat),j <= s.size /\ i = .int .i64 (j : Int) /\ x = .slice (some ⟨g1,0,none⟩) n n /\ y = .slice (some ⟨g2,0,none⟩) n n /\ Hid (ThI w0 ab xb g1 g2 c s j wr)) (fun _ _ i _ => s.size - (intOf i).toNat)
 case atStart => exact ⟨0,g1,g2,Nat.zero_le _,rfl,rfl,rfl,HI0⟩
 case round =>
  clear HI0;obtain ⟨j,p1,p2,hj,rfl,rfl,rfl,HI⟩ := hrel
  by_cases hlt : j < s.size
  ·have hbb : (0 : Int) <= ((s[j]'hlt).toNat : Int) /\ ((s[j]'hlt).toNat : Int) <= 255 := ⟨by omega,by have := (s[j]'hlt).toNat_lt;omega⟩;have HBJ : Hid (((s[j]'hlt).toNat) = bAt s j) := qhid (bAt_in hlt).symm;obtain ⟨f,hf⟩ := HI.out.v2;obtain ⟨W5,hcl,hv5,hg5⟩ := clear_vec hf;rw [<- HN.out] at hcl hv5;have hau5 := HI.out.au.kt auNe_int hg5 hf.of;have HG5 := qhid hg5;have HV5 := qhid hv5;have HAU5 := qhid hau5;have HV1 : Hid (VecI W5 p1 (prtC c).places (vecA c s j)) := qhid (HI.out.v1.off hg5 HI.out.ne);obtain ⟨wb,sv,fv,nv,vs,hme,hwg,hss,hfa,_⟩ := hau5;have HFA := qhid hfa;obtain ⟨fp,fc,rfl⟩ := owns_slice hfa.choose_spec;obtain ⟨fl,hfl⟩ : ∃ m,m = (arL (prtC c).first (prtC c).places).length := ⟨_,rfl⟩;rw [<- hfl] at hme HFA;have HME := qhid hme;clear hf hv5 hg5 hme hwg hss hfa hfl
   by_cases h0 : j = 0
   ·subst h0
    have HADD := qhid (fun (X : World) (hX : Below W5.heap.size W5 X) => (show Calls Tryz.prog 163 #[.pointer (some ⟨ab,0,none⟩),.slice (some ⟨p2,0,none⟩) n n,.int .i64 1,.slice fp fl fc,.int .u8 ((s[0]'hlt).toNat : Int)] X fun e w' => e = .returned (.tuple #[]) /\ AdI X p2 n (vecA c s 1) w' by
     have hv := HV5.out.up hX;rw [HN.out] at hv;have h6 := HAU5.out.le;have h := auadd_any X ab p2 n c (HAU5.out.up hX) noneW hv leV_none 1 ⟨by omega,by unfold top;omega⟩ (.slice fp fl fc) _ (HFA.out.up hX) (arL_bd (prt_ok c).first) (by have := arL_len (prtC c).first (prtC c).places;omega) _ hbb;rw [<- HN.out,HBJ.out] at h;rw [HBJ.out];unfold vecA beginA;rw [<- HN.out]
     exact h))
    obtain ⟨z,hz⟩ : ∃ z : Int,z = ((s[0]'hlt).toNat : Int) := ⟨_,rfl⟩;rw [<- hz] at HADD;have HZ := qhid hz;clear hz hbb HBJ
    go_upto_region 7 with (simp only [hcl])
    refine Reg.wp_region_H (th7 ab p2 n fl fc fp s z) (Reg.GenH 9 (Reg.MkP W5 [] (fun _ _ _ => True)) (fun _ X => ∃ Y,Below W5.heap.size W5 Y /\ AdI Y p2 n (vecA c s 1) X)) (fun _ => undef) [0,1,2,3,4,5,6,7,8,9] (by rfl) (by kernel_rfl) (by kernel_rfl) ?_ ?_ ?_
    ·exact Reg.GenH.start (Reg.MkP.start _ _)
    ·refine ⟨fun gh listed A X hI hcl hin hun hall => ⟨Reg.wanted_none rfl,?_⟩,?_⟩
     ·have e0 := hI.evo (d := 0) (by kernel_rfl) rfl;have HS := hI.st;have hR := HS.ahead (Reg.un_of_reach hcl (n := 9) (i := 0) (by kernel_rfl) (by simpa using hun));have hX := hR.bel;clear hI;have HS2 := qhid HS;clear HS hR hX;unfold Reg.Yields
      go_simp
      first | exact ⟨gh,fun _ _ => rfl,rfl,HS2.out.same (by decide) (Reg.un_of_reach hcl (n := 9) (i := 0) (by kernel_rfl) (by simpa using hun)) fun h => h.up (by simp) unit_up (Below.refl _ _)⟩ | exact ⟨rfl,gh,fun _ _ => rfl,rfl,HS2.out.same (by decide) (Reg.un_of_reach hcl (n := 9) (i := 0) (by kernel_rfl) (by simpa using hun)) fun h => h.up (by simp) unit_up (Below.refl _ _)⟩
     refine ⟨fun gh listed A X hI hcl hin hun hall => ⟨Reg.wanted_none rfl,?_⟩,?_⟩
     ·have e6 := hI.evo (d := 6) (by kernel_rfl) rfl;have HS := hI.st;have hR := HS.ahead (Reg.un_of_reach hcl (n := 9) (i := 1) (by kernel_rfl) (by simpa using hun));have hX := hR.bel;clear hI;have HS2 := qhid HS;clear HS hR hX;unfold Reg.Yields
      go_simp
      first | exact ⟨gh,fun _ _ => rfl,rfl,HS2.out.same (by decide) (Reg.un_of_reach hcl (n := 9) (i := 1) (by kernel_rfl) (by simpa using hun)) fun h => h.up (by simp) unit_up (Below.refl _ _)⟩ | exact ⟨rfl,gh,fun _ _ => rfl,rfl,HS2.out.same (by decide) (Reg.un_of_reach hcl (n := 9) (i := 1) (by kernel_rfl) (by simpa using hun)) fun h => h.up (by simp) unit_up (Below.refl _ _)⟩
     refine ⟨fun gh listed A X hI hcl hin hun hall => ⟨Reg.wanted_none rfl,?_⟩,?_⟩
     ·have e0 := hI.evo (d := 0) (by kernel_rfl) rfl;have HS := hI.st;have hR := HS.ahead (Reg.un_of_reach hcl (n := 9) (i := 2) (by kernel_rfl) (by simpa using hun));have hX := hR.bel;clear hI;have HS2 := qhid HS;clear HS hR hX;unfold Reg.Yields
      go_simp
      first | exact ⟨gh,fun _ _ => rfl,rfl,HS2.out.same (by decide) (Reg.un_of_reach hcl (n := 9) (i := 2) (by kernel_rfl) (by simpa using hun)) fun h => h.up (by simp) unit_up (Below.refl _ _)⟩ | exact ⟨rfl,gh,fun _ _ => rfl,rfl,HS2.out.same (by decide) (Reg.un_of_reach hcl (n := 9) (i := 2) (by kernel_rfl) (by simpa using hun)) fun h => h.up (by simp) unit_up (Below.refl _ _)⟩
     refine ⟨fun gh listed A X hI hcl hin hun hall => ⟨Reg.wanted_none rfl,?_⟩,?_⟩
     ·have e25 : A.tmps[25]? = some (.pointer (some ⟨ab,0,none⟩)) := hI.ev (i := 2) (d := 25) (by rfl) (hall ⟨2,.data⟩ (by simp) rfl);have HS := hI.st;have hR := HS.ahead (Reg.un_of_reach hcl (n := 9) (i := 3) (by kernel_rfl) (by simpa using hun));have hX := hR.bel;clear hI;have HS2 := qhid HS;clear HS hR hX;unfold Reg.Yields
      go_simp
      first | exact ⟨gh,fun _ _ => rfl,rfl,HS2.out.same (by decide) (Reg.un_of_reach hcl (n := 9) (i := 3) (by kernel_rfl) (by simpa using hun)) fun h => h.up (by simp) unit_up (Below.refl _ _)⟩ | exact ⟨rfl,gh,fun _ _ => rfl,rfl,HS2.out.same (by decide) (Reg.un_of_reach hcl (n := 9) (i := 3) (by kernel_rfl) (by simpa using hun)) fun h => h.up (by simp) unit_up (Below.refl _ _)⟩
     refine ⟨fun gh listed A X hI hcl hin hun hall => ⟨Reg.wanted_none rfl,?_⟩,?_⟩
     ·have e26 : A.tmps[26]? = some (.pointer (some ⟨ab,0,none⟩)) := hI.ev (i := 3) (d := 26) (by rfl) (hall ⟨3,.data⟩ (by simp) rfl);have HS := hI.st;have hR := HS.ahead (Reg.un_of_reach hcl (n := 9) (i := 4) (by kernel_rfl) (by simpa using hun));have hX := hR.bel;clear hI;have HS2 := qhid HS;clear HS hR hX;unfold Reg.Yields
      go_simp
      first | exact ⟨gh,fun _ _ => rfl,rfl,HS2.out.same (by decide) (Reg.un_of_reach hcl (n := 9) (i := 4) (by kernel_rfl) (by simpa using hun)) fun h => h.up (by simp) unit_up (Below.refl _ _)⟩ | exact ⟨rfl,gh,fun _ _ => rfl,rfl,HS2.out.same (by decide) (Reg.un_of_reach hcl (n := 9) (i := 4) (by kernel_rfl) (by simpa using hun)) fun h => h.up (by simp) unit_up (Below.refl _ _)⟩
     refine ⟨fun gh listed A X hI hcl hin hun hall => ⟨Reg.wanted_none rfl,?_⟩,?_⟩
     ·have e27 : A.tmps[27]? = some (.pointer (some ⟨ab,2,none⟩)) := hI.ev (i := 4) (d := 27) (by rfl) (hall ⟨4,.data⟩ (by simp) rfl);have HS := hI.st;have hR := HS.ahead (Reg.un_of_reach hcl (n := 9) (i := 5) (by kernel_rfl) (by simpa using hun));have hX := hR.bel;obtain ⟨c0,c1,c2,c3⟩ := au_cells (Reg.heap_kept_up HME.out hX);clear hI;have HS2 := qhid HS;clear HS hR hX;unfold Reg.Yields
      go_simp
      first | exact ⟨gh,fun _ _ => rfl,rfl,HS2.out.same (by decide) (Reg.un_of_reach hcl (n := 9) (i := 5) (by kernel_rfl) (by simpa using hun)) fun h => h.up (by simp) unit_up (Below.refl _ _)⟩ | exact ⟨rfl,gh,fun _ _ => rfl,rfl,HS2.out.same (by decide) (Reg.un_of_reach hcl (n := 9) (i := 5) (by kernel_rfl) (by simpa using hun)) fun h => h.up (by simp) unit_up (Below.refl _ _)⟩
     refine ⟨fun gh listed A X hI hcl hin hun hall => ⟨Reg.wanted_none rfl,?_⟩,?_⟩
     ·have e1 := hI.evo (d := 1) (by kernel_rfl) rfl;have HS := hI.st;have hR := HS.ahead (Reg.un_of_reach hcl (n := 9) (i := 6) (by kernel_rfl) (by simpa using hun));have hX := hR.bel;clear hI;have HS2 := qhid HS;clear HS hR hX;unfold Reg.Yields
      go_simp
      first | exact ⟨gh,fun _ _ => rfl,rfl,HS2.out.same (by decide) (Reg.un_of_reach hcl (n := 9) (i := 6) (by kernel_rfl) (by simpa using hun)) fun h => h.up (by simp) unit_up (Below.refl _ _)⟩ | exact ⟨rfl,gh,fun _ _ => rfl,rfl,HS2.out.same (by decide) (Reg.un_of_reach hcl (n := 9) (i := 6) (by kernel_rfl) (by simpa using hun)) fun h => h.up (by simp) unit_up (Below.refl _ _)⟩
     refine ⟨fun gh listed A X hI hcl hin hun hall => ⟨Reg.wanted_none rfl,?_⟩,?_⟩
     ·have e8 := hI.evo (d := 8) (by kernel_rfl) rfl;have HS := hI.st;have hR := HS.ahead (Reg.un_of_reach hcl (n := 9) (i := 7) (by kernel_rfl) (by simpa using hun));have hX := hR.bel;clear hI;have HS2 := qhid HS;clear HS hR hX;unfold Reg.Yields
      go_simp
      first | exact ⟨gh,fun _ _ => rfl,rfl,HS2.out.same (by decide) (Reg.un_of_reach hcl (n := 9) (i := 7) (by kernel_rfl) (by simpa using hun)) fun h => h.up (by simp) unit_up (Below.refl _ _)⟩ | exact ⟨rfl,gh,fun _ _ => rfl,rfl,HS2.out.same (by decide) (Reg.un_of_reach hcl (n := 9) (i := 7) (by kernel_rfl) (by simpa using hun)) fun h => h.up (by simp) unit_up (Below.refl _ _)⟩
     refine ⟨fun gh listed A X hI hcl hin hun hall => ⟨Reg.wanted_none rfl,?_⟩,?_⟩
     ·have e29 : A.tmps[29]? = some (.string s) := hI.ev (i := 6) (d := 29) (by rfl) (hall ⟨6,.data⟩ (by simp) rfl);have e30 : A.tmps[30]? = some (.int .i64 0) := hI.ev (i := 7) (d := 30) (by rfl) (hall ⟨7,.data⟩ (by simp) rfl);have HS := hI.st;have hR := HS.ahead (Reg.un_of_reach hcl (n := 9) (i := 8) (by kernel_rfl) (by simpa using hun));have hX := hR.bel;have hz := HZ.out;have hsl := hlt;clear hI;have HS2 := qhid HS;clear HS hR hX;unfold Reg.Yields
      go_simp
      first | exact ⟨gh,fun _ _ => rfl,rfl,HS2.out.same (by decide) (Reg.un_of_reach hcl (n := 9) (i := 8) (by kernel_rfl) (by simpa using hun)) fun h => h.up (by simp) unit_up (Below.refl _ _)⟩ | exact ⟨rfl,gh,fun _ _ => rfl,rfl,HS2.out.same (by decide) (Reg.un_of_reach hcl (n := 9) (i := 8) (by kernel_rfl) (by simpa using hun)) fun h => h.up (by simp) unit_up (Below.refl _ _)⟩
     refine ⟨fun gh listed A X hI hcl hin hun hall => ⟨Reg.wanted_none rfl,?_⟩,?_⟩
     ·have e23 : A.tmps[23]? = some (.pointer (some ⟨ab,0,none⟩)) := hI.ev (i := 0) (d := 23) (by rfl) (hall ⟨0,.data⟩ (by simp) rfl);have e24 : A.tmps[24]? = some (.slice (some ⟨p2,0,none⟩) n n) := hI.ev (i := 1) (d := 24) (by rfl) (hall ⟨1,.data⟩ (by simp) rfl);have e28 : A.tmps[28]? = some (.slice fp fl fc) := hI.ev (i := 5) (d := 28) (by rfl) (hall ⟨5,.data⟩ (by simp) rfl);have e31 : A.tmps[31]? = some (.int .u8 z) := hI.ev (i := 8) (d := 31) (by rfl) (hall ⟨8,.data⟩ (by simp) rfl);have HS := hI.st;have hX := (HS.ahead (by simpa using hun)).bel;have HX := qhid hX;have HM := qhid (HADD.out X hX);clear hX hI;have HS2 := qhid HS;clear HS;unfold Reg.Yields
      go_simp
      refine HM.out.mono ?_;rintro e w2 ⟨he,hI⟩;exact ⟨_,he,gh,fun _ _ => rfl,rfl,HS2.out.store (by simpa using hin) ⟨X,HX.out,hI⟩⟩
     trivial
    ·intro gh X7 hS;have HR := qhid (hS.done (by rfl));clear hS;simp [Reg.finalTmps,Reg.dstAt,Reg.valOf,th7];obtain ⟨Y,hY,hI⟩ := HR.out;have hI2 : AdI Y p2 (prtC c).places (vecA c s (0 + 1)) X7 := by rw [<- HN.out];exact hI
     have hv5 : VecI W5 p2 (prtC c).places noneW := by rw [<- HN.out];exact HV5.out
     obtain ⟨u,hu⟩ := HI.out.xbAt HG5.out hv5 hY hI2;have hNx := HI.out.next HXB.out HG5.out hv5 hY hI2;rw [<- HN.out] at hNx;have HNX := qhid hNx;have HC := qhid (vclo_any X7 xb u (some ⟨p2,0,none⟩) n n hu);clear hY hI hI2 hv5 hu hNx HR
     go_wp2_with fail
     refine HC.out.mono ?_;rintro e w8 ⟨rfl,hw8⟩;have HN8 : Hid (ThI w0 ab xb p2 p1 c s (0 + 1) w8) := qhid (by rw [hw8];exact HNX.out);clear hw8 HNX HC
     go_wp2_with fail
     go_roundw
     case rel => exact ⟨0 + 1,p2,p1,by omega,by go_num,rfl,rfl,HN8⟩
     case measure => simp [intOf];omega
   ·have hne : ¬ ((j : Int) = 0) := by omega
    obtain ⟨i,rfl⟩ : ∃ i,j = i + 1 := ⟨j - 1,by omega⟩
    have HST : Hid (Calls Tryz.prog 121 #[.pointer (some ⟨ab,0,none⟩),.slice (some ⟨p2,0,none⟩) n n,.slice (some ⟨p1,0,none⟩) n n,.int .u8 ((s[i + 1]'hlt).toNat : Int)] W5 fun e w' => e = .returned (.tuple #[]) /\ AdI W5 p2 n (vecA c s (i + 1 + 1)) w') := qhid (by
     have h := austep_any W5 ab p2 n p1 n c HAU5.out (vecA c s (i + 1)) HV1.out (vecA_le _ _ _) (by rw [<- HN.out];exact HV5.out) HI.out.ne (by rw [HN.out];exact jN _) _ hbb;rw [<- HN.out] at h;rw [HBJ.out] at h ⊢
     exact h)
    clear hbb HBJ
    go_upto_region 8 with (simp only [hcl])
    go_wp2_with fail
    refine HST.out.mono ?_;rintro e X7 ⟨rfl,hI0⟩;have HR : Hid (∃ Y,Below W5.heap.size W5 Y /\ AdI Y p2 n (vecA c s (i + 1 + 1)) X7) := qhid ⟨W5,Below.refl _ _,hI0⟩;clear hI0 HST;obtain ⟨Y,hY,hI⟩ := HR.out;have hI2 : AdI Y p2 (prtC c).places (vecA c s ((i + 1) + 1)) X7 := by rw [<- HN.out];exact hI
    have hv5 : VecI W5 p2 (prtC c).places noneW := by rw [<- HN.out];exact HV5.out
    obtain ⟨u,hu⟩ := HI.out.xbAt HG5.out hv5 hY hI2;have hNx := HI.out.next HXB.out HG5.out hv5 hY hI2;rw [<- HN.out] at hNx;have HNX := qhid hNx;have HC := qhid (vclo_any X7 xb u (some ⟨p2,0,none⟩) n n hu);clear hY hI hI2 hv5 hu hNx HR
    go_wp2_with fail
    refine HC.out.mono ?_;rintro e w8 ⟨rfl,hw8⟩;have HN8 : Hid (ThI w0 ab xb p2 p1 c s ((i + 1) + 1) w8) := qhid (by rw [hw8];exact HNX.out);clear hw8 HNX HC
    go_wp2_with fail
    go_roundw
    case rel => exact ⟨(i + 1) + 1,p2,p1,by omega,by go_num,rfl,rfl,HN8⟩
    case measure => simp [intOf];omega
  ·obtain rfl : j = s.size := by omega
   go_wp2_with fail
   exact bodyPost_end (v := .tuple #[]) (by simp [results,Tryz.results119,go_sem]) rfl ⟨rfl,p1,p2,HI.out⟩
theorem auvector_any (w : World) (ab : Nat) (c : Co) (h : AuAt w ab c) (s : ByteArray) (hs : s.size <= 1000000) : Calls Tryz.prog 70 #[.pointer (some ⟨ab,0,none⟩),.string s] w fun e w' => ∃ g,e = .returned (.slice (some ⟨g,0,none⟩) (prtC c).places (prtC c).places) /\ VecI w' g (prtC c).places (vecA c s s.size) /\ Below w.heap.size w w' := by
 have hmf : ∀ (fn : Fn) (first cap : Array Value) (w : World),(Instr.makeFunc fn first cap).run Tryz.prog w = .ok (.func fn first cap) w := fun _ _ _ _ => rfl
 have HZ := qhid (auzero_any w ab c h);have HAU := qhid h;have HS := qhid hs;obtain ⟨n,hn⟩ : ∃ n,n = (prtC c).places := ⟨_,rfl⟩;rw [<- hn] at HZ ⊢;have HN := qhid hn;clear h hs hn
 go_enter Tryz.func70,Tryz.ntmps70
 go_wp2_with fail
 refine HZ.out.mono ?_;rintro e w1 ⟨g1,rfl,hg1,hv1,hb1⟩;obtain ⟨W2,hW2⟩ : ∃ X,X = w1.alloc (.cells #[.slice (some ⟨g1,0,none⟩) n n] 60) := ⟨_,rfl⟩;obtain ⟨xb,hxb⟩ : ∃ a,a = w1.heap.size := ⟨_,rfl⟩;have hb2 : Below w1.heap.size w1 W2 := by rw [hW2];exact below1 _ _
 have hb12 := hb1.trans (hb2.mono hb1.size);have HT := qhid (authrough_any W2 w ab xb g1 c s HS.out hb12 (by have := hb1.size;omega) (HAU.out.up hb12) (by rw [<- HN.out,hW2,hxb];exact heap_new _ _) (by rw [<- HN.out];exact hv1.up hb2));have HW2 := qhid hW2;have HXB := qhid hxb;clear hg1 hv1 hb1 hb2 hb12 hW2 hxb HZ HAU
 go_upto_region 4 with fail
 rw [show w1.alloc (.cells #[.slice (some ⟨g1,0,none⟩) n n] 60) = W2 from HW2.out.symm,<- HXB.out]
 go_wp2_with fail
 refine HT.out.mono ?_;rintro e w3 ⟨rfl,p1,p2,hI⟩;obtain ⟨gb,hb,hv⟩ := hI.box;rw [<- HN.out] at hb hv;have c0 := (jC hb 0).trans rfl;have HV := qhid hv;have HB := qhid hI.bel;clear hI hb hv HT
 go_wp2_with fail
 exact bodyPost_ret (v := .slice (some ⟨gb,0,none⟩) n n) (by simp [results,Tryz.results70,go_sem]) rfl ⟨gb,rfl,HV.out,HB.out⟩
theorem ways_up {n : Nat} {u v : Wts} : Reg.UpP (fun (i : Nat) (b : Value) X => (i = 2 -> VecS n u b X) /\ (i = 7 -> VecS n v b X)) := fun _ b X Y hb h => ⟨fun e => vecS_up 0 b X Y hb (h.1 e),fun e => vecS_up 0 b X Y hb (h.2 e)⟩
theorem bytes_len (s : ByteArray) : ∀ (k i : Nat) (r : List UInt8),s.size - i = k -> (ByteArray.toList.loop s i r).length = r.length + k
 | 0,i,r,h => by
  unfold ByteArray.toList.loop;rw [if_neg (by omega)];simp
 | k + 1,i,r,h => by
  unfold ByteArray.toList.loop;rw [if_pos (by omega),bytes_len s k (i + 1) _ (by omega)];simp;omega
theorem bytes_some (s : ByteArray) (h0 : s.size ≠ 0) : s.toList.isEmpty = false := by
 cases e : s.toList with
 | nil =>
  have h := bytes_len s s.size 0 [] rfl;unfold ByteArray.toList at e;rw [e] at h;simp at h;omega
 | cons a l => rfl
def wy5 (ab wb : Nat) (s : ByteArray) (d : Int) (gh : Nat -> Value) : Nat -> Value
 | 0 => .pointer (some ⟨ab,0,none⟩)
 | 1 => .string s
 | 2 => gh 2
 | 3 => .pointer (some ⟨ab,0,none⟩)
 | 4 => .pointer (some ⟨ab,0,none⟩)
 | 5 => .pointer (some ⟨ab,0,none⟩)
 | 6 => .pointer (some ⟨wb,0,none⟩)
 | 7 => gh 7
 | 8 => .int .i64 d
 | 9 => .int .i64 d
 | _ => undef
theorem wy5_2 {ab wb : Nat} {s : ByteArray} {d : Int} {gh : Nat -> Value} {gx} {j : Nat} (h2 : j ≠ 2) : wy5 ab wb s d (Reg.updP gh 2 gx) j = wy5 ab wb s d gh j := by
 unfold wy5
 split <;> first | rfl | exact absurd rfl ‹_› | (rw [Reg.updP_other _ _ (by decide)])
theorem wy5_7 {ab wb : Nat} {s : ByteArray} {d : Int} {gh : Nat -> Value} {gx} {j : Nat} (h7 : j ≠ 7) : wy5 ab wb s d (Reg.updP gh 7 gx) j = wy5 ab wb s d gh j := by
 unfold wy5
 split <;> first | rfl | exact absurd rfl ‹_› | (rw [Reg.updP_other _ _ (by decide)])
theorem auways_any (w : World) (ab : Nat) (c : Co) (h : AuAt w ab c) (s : ByteArray) (hs : s.size <= 1000000) (h0 : s.size ≠ 0) : Calls Tryz.prog 68 #[.pointer (some ⟨ab,0,none⟩),.string s] w fun e w' => e = .returned (.int .i64 (dotA (vecA c s s.size) (prtC c).last (prtC c).places)) /\ Below w.heap.size w w' := by
 have HAU := qhid h;have HS1 := qhid hs;have hne := bytes_some s h0;obtain ⟨wb,sv,fv,nv,vs,hme,hwg,_⟩ := h.ex;obtain ⟨n,hn⟩ : ∃ n,n = (prtC c).places := ⟨_,rfl⟩;obtain ⟨d,hd⟩ : ∃ d,d = dotA (vecA c s s.size) (prtC c).last n := ⟨_,rfl⟩;have HN6 : Hid (n <= 100000) := qhid (by have := h.le;omega);rw [<- hn,<- hd];have HN := qhid hn;have HD := qhid hd;have HME := qhid hme;have HWG := qhid hwg;clear h hs h0 hme hwg hn hd
 go_enter Tryz.func68,Tryz.ntmps68
 go_upto_region 4 with fail
 refine Reg.wp_region_H (wy5 ab wb s d) (Reg.MkP w [2,7] (fun i b X => (i = 2 -> VecS n (vecA c s s.size) b X) /\ (i = 7 -> VecS n (prtC c).last b X))) (fun _ => undef) [0,1,2,3,4,5,6,7,8,9] (by rfl) (by kernel_rfl) (by kernel_rfl) ?_ ?_ ?_
 ·exact Reg.MkP.start _ _
 ·refine ⟨fun gh listed A X hI hcl hin hun hall => ⟨Reg.wanted_none rfl,?_⟩,?_⟩
  ·have e0 := hI.evo (d := 0) (by kernel_rfl) rfl;have HS := hI.st;have hR := HS;have hX := hR.bel;clear hI;have HS2 := qhid HS;clear HS hR hX;unfold Reg.Yields
   go_simp
   first | exact ⟨gh,fun _ _ => rfl,rfl,HS2.out.up (by simp) ways_up (Below.refl _ _)⟩ | exact ⟨rfl,gh,fun _ _ => rfl,rfl,HS2.out.up (by simp) ways_up (Below.refl _ _)⟩
  refine ⟨fun gh listed A X hI hcl hin hun hall => ⟨Reg.wanted_none rfl,?_⟩,?_⟩
  ·have e1 := hI.evo (d := 1) (by kernel_rfl) rfl;have HS := hI.st;have hR := HS;have hX := hR.bel;clear hI;have HS2 := qhid HS;clear HS hR hX;unfold Reg.Yields
   go_simp
   first | exact ⟨gh,fun _ _ => rfl,rfl,HS2.out.up (by simp) ways_up (Below.refl _ _)⟩ | exact ⟨rfl,gh,fun _ _ => rfl,rfl,HS2.out.up (by simp) ways_up (Below.refl _ _)⟩
  refine ⟨fun gh listed A X hI hcl hin hun hall => ⟨Reg.wanted_none rfl,?_⟩,?_⟩
  ·have e16 : A.tmps[16]? = some (.pointer (some ⟨ab,0,none⟩)) := hI.ev (i := 0) (d := 16) (by rfl) (hall ⟨0,.data⟩ (by simp) rfl);have e17 : A.tmps[17]? = some (.string s) := hI.ev (i := 1) (d := 17) (by rfl) (hall ⟨1,.data⟩ (by simp) rfl);have HS := hI.st;have hR := HS;have hX := hR.bel;have HM := qhid (auvector_any X ab c (HAU.out.up hX) s HS1.out);rw [<- HN.out] at HM;clear hI;have HS2 := qhid HS;clear HS hR hX;unfold Reg.Yields
   go_simp
   refine HM.out.mono ?_;rintro e w2 ⟨g1,he,hv,hb⟩;exact ⟨_,he,Reg.updP gh 2 (.slice (some ⟨g1,0,none⟩) n n),fun j hj => wy5_2 (j := j) (fun e => by rw [e] at hj;rw [hj] at hun;cases hun),rfl,HS2.out.new _ ways_up (hb) (⟨fun _ => ⟨g1,rfl,hv⟩,fun e => absurd e (by decide)⟩)⟩
  refine ⟨fun gh listed A X hI hcl hin hun hall => ⟨Reg.wanted_none rfl,?_⟩,?_⟩
  ·have e0 := hI.evo (d := 0) (by kernel_rfl) rfl;have HS := hI.st;have hR := HS;have hX := hR.bel;clear hI;have HS2 := qhid HS;clear HS hR hX;unfold Reg.Yields
   go_simp
   first | exact ⟨gh,fun _ _ => rfl,rfl,HS2.out.up (by simp) ways_up (Below.refl _ _)⟩ | exact ⟨rfl,gh,fun _ _ => rfl,rfl,HS2.out.up (by simp) ways_up (Below.refl _ _)⟩
  refine ⟨fun gh listed A X hI hcl hin hun hall => ⟨Reg.wanted_none rfl,?_⟩,?_⟩
  ·have e19 : A.tmps[19]? = some (.pointer (some ⟨ab,0,none⟩)) := hI.ev (i := 3) (d := 19) (by rfl) (hall ⟨3,.data⟩ (by simp) rfl);have HS := hI.st;have hR := HS;have hX := hR.bel;clear hI;have HS2 := qhid HS;clear HS hR hX;unfold Reg.Yields
   go_simp
   first | exact ⟨gh,fun _ _ => rfl,rfl,HS2.out.up (by simp) ways_up (Below.refl _ _)⟩ | exact ⟨rfl,gh,fun _ _ => rfl,rfl,HS2.out.up (by simp) ways_up (Below.refl _ _)⟩
  refine ⟨fun gh listed A X hI hcl hin hun hall => ⟨Reg.wanted_none rfl,?_⟩,?_⟩
  ·have e20 : A.tmps[20]? = some (.pointer (some ⟨ab,0,none⟩)) := hI.ev (i := 4) (d := 20) (by rfl) (hall ⟨4,.data⟩ (by simp) rfl);have HS := hI.st;have hR := HS;have hX := hR.bel;clear hI;have HS2 := qhid HS;clear HS hR hX;unfold Reg.Yields
   go_simp
   first | exact ⟨gh,fun _ _ => rfl,rfl,HS2.out.up (by simp) ways_up (Below.refl _ _)⟩ | exact ⟨rfl,gh,fun _ _ => rfl,rfl,HS2.out.up (by simp) ways_up (Below.refl _ _)⟩
  refine ⟨fun gh listed A X hI hcl hin hun hall => ⟨Reg.wanted_none rfl,?_⟩,?_⟩
  ·have e21 : A.tmps[21]? = some (.pointer (some ⟨ab,0,none⟩)) := hI.ev (i := 5) (d := 21) (by rfl) (hall ⟨5,.data⟩ (by simp) rfl);have HS := hI.st;have hR := HS;have hX := hR.bel;obtain ⟨c0,c1,c2,c3⟩ := au_cells (Reg.heap_kept_up HME.out hX);clear hI;have HS2 := qhid HS;clear HS hR hX;unfold Reg.Yields
   go_simp
   first | exact ⟨gh,fun _ _ => rfl,rfl,HS2.out.up (by simp) ways_up (Below.refl _ _)⟩ | exact ⟨rfl,gh,fun _ _ => rfl,rfl,HS2.out.up (by simp) ways_up (Below.refl _ _)⟩
  refine ⟨fun gh listed A X hI hcl hin hun hall => ⟨Reg.wanted_none rfl,?_⟩,?_⟩
  ·have e22 : A.tmps[22]? = some (.pointer (some ⟨wb,0,none⟩)) := hI.ev (i := 6) (d := 22) (by rfl) (hall ⟨6,.data⟩ (by simp) rfl);have HS := hI.st;have hR := HS;have hX := hR.bel;have HM := qhid (wlast_any X wb c (HWG.out.up hX));rw [<- HN.out] at HM;clear hI;have HS2 := qhid HS;clear HS hR hX;unfold Reg.Yields
   go_simp
   refine HM.out.mono ?_;rintro e w2 ⟨g1,he,hv,hb⟩;exact ⟨_,he,Reg.updP gh 7 (.slice (some ⟨g1,0,none⟩) n n),fun j hj => wy5_7 (j := j) (fun e => by rw [e] at hj;rw [hj] at hun;cases hun),rfl,HS2.out.new _ ways_up (hb) (⟨fun e => absurd e (by decide),fun _ => ⟨g1,rfl,hv⟩⟩)⟩
  refine ⟨fun gh listed A X hI hcl hin hun hall => ⟨Reg.wanted_none rfl,?_⟩,?_⟩
  ·have e18 : A.tmps[18]? = some (gh 2) := hI.ev (i := 2) (d := 18) (by rfl) (hall ⟨2,.data⟩ (by simp) rfl);have e23 : A.tmps[23]? = some (gh 7) := hI.ev (i := 7) (d := 23) (by rfl) (hall ⟨7,.data⟩ (by simp) rfl);have HS := hI.st;have hR := HS;have hX := hR.bel;obtain ⟨g1,hg1,hv1⟩ := (hR.at_ 2 (by simp) (hall ⟨2,.data⟩ (by simp) rfl)).1 rfl;obtain ⟨g2,hg2,hv2⟩ := (hR.at_ 7 (by simp) (hall ⟨7,.data⟩ (by simp) rfl)).2 rfl;rw [hg1] at e18;rw [hg2] at e23;have HM := qhid (dot_any X g1 g2 n n n HN6.out _ _ hv1 hv2 (vecA_le _ _ _) (fun p => (prt_ok c).last.bd p));rw [<- HD.out] at HM;clear hg1 hv1 hg2 hv2;clear hI;have HS2 := qhid HS;clear HS hR hX;unfold Reg.Yields
   go_simp
   refine HM.out.mono ?_;rintro e w2 ⟨he,hb⟩;exact ⟨_,he,gh,fun _ _ => rfl,rfl,HS2.out.up (by simp) ways_up (hb)⟩
  refine ⟨fun gh listed A X hI hcl hin hun hall => ⟨Reg.wanted_none rfl,?_⟩,?_⟩
  ·have e24 : A.tmps[24]? = some (.int .i64 d) := hI.ev (i := 8) (d := 24) (by rfl) (hall ⟨8,.data⟩ (by simp) rfl);have HS := hI.st;have hR := HS;have hX := hR.bel;clear hI;have HS2 := qhid HS;clear HS hR hX;unfold Reg.Yields
   go_simp
   first | exact ⟨gh,fun _ _ => rfl,rfl,HS2.out.up (by simp) ways_up (Below.refl _ _)⟩ | exact ⟨rfl,gh,fun _ _ => rfl,rfl,HS2.out.up (by simp) ways_up (Below.refl _ _)⟩
  trivial
 ·intro gh X hS;have HB := qhid hS.bel;have HK2 := qhid (hS.at_ 2 (by simp) (by rfl));have HK7 := qhid (hS.at_ 7 (by simp) (by rfl));clear hS;simp [Reg.finalTmps,Reg.dstAt,Reg.valOf,wy5];clear HK2 HK7
  go_wp2_with fail
  exact bodyPost_ret (v := .int .i64 d) (by simp [results,Tryz.results68,go_sem]) rfl ⟨rfl,HB.out⟩
theorem means_any (w : World) (ab : Nat) (c : Co) (h : AuAt w ab c) (s : ByteArray) (hs : s.size <= 1000000) (h0 : s.size ≠ 0) : Calls Tryz.prog 26 #[.pointer (some ⟨ab,0,none⟩),.string s] w fun e w' => e = .returned (.bool (decide (0 < dotA (vecA c s s.size) (prtC c).last (prtC c).places))) /\ Below w.heap.size w w' := by
 have HW := qhid (auways_any w ab c h s hs h0);clear h hs h0
 go_enter Tryz.func26,Tryz.ntmps26
 go_wp2_with fail
 refine HW.out.mono ?_;rintro e w1 ⟨rfl,hb⟩;have HB := qhid hb;clear hb
 go_wp2_with fail
 go_ret
 exact ⟨rfl,HB.out⟩
end
end
end Go.Proofs.YtnmalggmbeipaaaGreatDoor
namespace Go.Proofs.YtnmalggmbeipaaaGreatDoor
section
section
open Go Go.RowKit
attribute [local go_sem ↓] Go.wp_at_zero Go.wp_at_succ
attribute [local go_sem] eq4
theorem auparse_ok (s : ByteArray) (hs : s.size <= 400) (t : Tr) (hp : parseR s = (0,0,some t)) (hz : adL [szT t,addM 0] <= 4096) (h6 : (prtC (byC 0 (coreT t))).places <= 600) (w : World) (hT : Tab w) :
  Calls Tryz.prog 59 #[.string s,.int .i64 0] w fun e w' => ∃ ab,e = .returned (.tuple #[.pointer (some ⟨ab,0,none⟩),.int .i64 0,.int .i64 0]) /\ AuAt w' ab (byC 0 (coreT t)) /\ Below w.heap.size w w' := by
 have PA := qhid (cparse_po s 0 (by decide) hs w hT);have HPI := qhid (fun (X : World) (v : Value) (e : Int) (h : PO s 0 X v e) => po_is hs hp hz h);obtain ⟨c,hc⟩ : ∃ c,c = byC 0 (coreT t) := ⟨_,rfl⟩;rw [<- hc] at h6 HPI ⊢;have H6 := qhid h6;clear hc hT hp hz hs h6
 go_enter Tryz.func59,Tryz.ntmps59
 go_wp2_with fail
 refine PA.out.mono ?_;rintro y w1 ⟨v,a,e,rfl,hpo,hb1⟩;obtain ⟨rfl,hco,hg⟩ := HPI.out _ _ _ hpo;obtain ⟨p,rfl⟩ := hco.ptr;have HN := qhid (aunew_any w1 c _ hg hco);have HB1 := qhid hb1;clear hpo hco hg hb1 PA HPI
 go_wp2_with fail
 refine HN.out.mono ?_;rintro y w2 ⟨hb2,⟨_,ab,rfl,hau⟩ | ⟨h6,_⟩⟩
 ·have HAU := qhid hau;have HB2 := qhid (HB1.out.trans (hb2.mono HB1.out.size));clear hau hb2 HN HB1
  go_wp2_with fail
  exact bodyPost_ret (v := .tuple #[.pointer (some ⟨ab,0,none⟩),.int .i64 0,.int .i64 0]) (by simp [results,Tryz.results59,go_sem]) rfl ⟨ab,rfl,HAU.out,HB2.out⟩
 ·have := H6.out;omega
theorem auways_nil (s : ByteArray) (w : World) : Calls Tryz.prog 68 #[.pointer none,.string s] w fun e w' => e = .returned (.int .i64 0) /\ w' = w := by
 go_enter Tryz.func68,Tryz.ntmps68
 go_wp2_with fail
 go_ret
 exact ⟨rfl,rfl⟩
theorem means_nil (s : ByteArray) (w : World) : Calls Tryz.prog 26 #[.pointer none,.string s] w fun e w' => e = .returned (.bool false) /\ w' = w := by
 go_enter Tryz.func26,Tryz.ntmps26
 go_wp2_with fail
 refine (auways_nil s w).mono ?_;rintro e w1 ⟨rfl,hw⟩;obtain rfl := hw
 go_wp2_with fail
 go_ret
 exact ⟨rfl,rfl⟩
theorem alive_nil (s : ByteArray) (w : World) : Calls Tryz.prog 27 #[.pointer none,.string s] w fun e w' => e = .returned (.slice none 0 0) /\ w' = w := by
 go_enter Tryz.func27,Tryz.ntmps27
 go_wp2_with fail
 go_ret
 exact ⟨rfl,rfl⟩
theorem next_nil (v : Value) (b : Int) (w : World) : Calls Tryz.prog 28 #[.pointer none,v,.int .u8 b] w fun e w' => e = .returned (.slice none 0 0) /\ w' = w := by
 go_enter Tryz.func28,Tryz.ntmps28
 go_wp2_with fail
 go_ret
 exact ⟨rfl,rfl⟩
theorem ends_nil (v : Value) (w : World) : Calls Tryz.prog 29 #[.pointer none,v] w fun e w' => e = .returned (.bool false) /\ w' = w := by
 go_enter Tryz.func29,Tryz.ntmps29
 go_wp2_with fail
 go_ret
 exact ⟨rfl,rfl⟩
theorem beginnings_nil (s : ByteArray) (w : World) : Calls Tryz.prog 30 #[.pointer none,.string s] w fun e w' => e = .returned (.slice none 0 0) /\ w' = w := by
 go_enter Tryz.func30,Tryz.ntmps30
 go_wp2_with fail
 go_ret
 exact ⟨rfl,rfl⟩
theorem reached_nil (w : World) : Calls Tryz.prog 31 #[.pointer none] w fun e w' => e = .returned (.slice none 0 0) /\ w' = w := by
 go_enter Tryz.func31,Tryz.ntmps31
 go_wp2_with fail
 go_ret
 exact ⟨rfl,rfl⟩
theorem within_nil (s : ByteArray) (w : World) : Calls Tryz.prog 25 #[.pointer none,.string s] w fun e w' => e = .returned (.tuple #[.int .i64 0,.int .i64 0,.bool false]) /\ w' = w := by
 go_enter Tryz.func25,Tryz.ntmps25
 go_wp2_with fail
 exact bodyPost_ret (v := .tuple #[.int .i64 0,.int .i64 0,.bool false]) (by simp [results,Tryz.results25,go_sem]) rfl ⟨rfl,rfl⟩
theorem shortest_nil (w : World) : Calls Tryz.prog 24 #[.pointer none] w fun e w' => e = .returned (.tuple #[.string ⟨#[]⟩,.bool false]) /\ Below w.heap.size w w' := by
 go_enter Tryz.func24,Tryz.ntmps24
 go_wp2_with fail
 exact bodyPost_ret (v := .tuple #[.string ⟨#[]⟩,.bool false]) (by simp [results,Tryz.results24,go_sem]) rfl ⟨rfl,below1 _ _⟩
def mS1 : ByteArray := ⟨#[97,98,124,97]⟩
def mW2 : ByteArray := ⟨#[97,98]⟩
def mW1 : ByteArray := ⟨#[98]⟩
def mT1 : Tr := .mk 5 noW 0 0 false 0 4 [.mk 4 noW 0 0 false 0 2 [.mk 1 (oneW 97) 0 0 false 0 1 [],.mk 1 (oneW 98) 0 0 false 1 2 []],.mk 1 (oneW 97) 0 0 false 3 4 []]
theorem m1_is : parseR mS1 = (0,0,some mT1) := by kernel_rfl
theorem m1_small : adL [szT mT1,addM 0] <= 4096 := by decide +kernel
theorem m1_places : (prtC (byC 0 (coreT mT1))).places = 3 := by kernel_rfl
theorem m1_beg : bgL (byC 0 (coreT mT1)) mW2 2 = [.bool false,.bool true,.bool true] := by kernel_rfl
theorem m1_yes : decide (0 < dotA (vecA (byC 0 (coreT mT1)) mW2 2) (prtC (byC 0 (coreT mT1))).last (prtC (byC 0 (coreT mT1))).places) = true := by kernel_rfl
theorem m1_no : decide (0 < dotA (vecA (byC 0 (coreT mT1)) mW1 1) (prtC (byC 0 (coreT mT1))).last (prtC (byC 0 (coreT mT1))).places) = false := by kernel_rfl
theorem member_awake (w : World) (hT : Tab w) : Calls Tryz.prog 23 #[] w fun e w' => e = .returned (.bool true) /\ Below w.heap.size w w' := by
 have PA := qhid (auparse_ok mS1 (by decide) mT1 m1_is m1_small (by rw [m1_places];omega) w hT);obtain ⟨c,hc⟩ : ∃ c,c = byC 0 (coreT mT1) := ⟨_,rfl⟩;have HBG := qhid m1_beg;have HY := qhid m1_yes;have HNO := qhid m1_no;rw [<- hc] at PA HBG HY HNO;clear hc hT
 go_enter Tryz.func23,Tryz.ntmps23
 go_wp2_with fail
 refine PA.out.mono ?_;rintro y w1 ⟨ab,rfl,hau,hb1⟩;have HAU := qhid hau;have HB1 := qhid hb1;have HB := qhid (beginnings_any w1 ab c hau mW2 (by decide));clear hau hb1 PA
 go_wp2_with fail
 refine HB.out.mono ?_;rintro y w2 ⟨v,rfl,hr,hb2⟩;obtain ⟨g,cap,hv,_,hgl⟩ := hr.form (by decide);subst hv;rw [show mW2.size = 2 from rfl,HBG.out] at hr;have key := fun j u hj => hr.cells (g := g) rfl j u hj
 have ha : ∀ k,(⟨g,0,none⟩ : Addr).add k = ⟨g,k,none⟩ := fun k => by unfold Addr.add;split <;> simp_all
 have k0 := key 0 _ rfl;have k1 := key 1 _ rfl;have k2 := key 2 _ rfl;rw [ha] at k0 k1 k2;have HM := qhid (means_any w2 ab c (HAU.out.up hb2) mW2 (by decide) (by decide));rw [show mW2.size = 2 from rfl,HY.out] at HM;have HB2 := qhid hb2;clear hr key ha hb2 HB hgl
 go_wp2_with fail
 refine HM.out.mono ?_;rintro y w3 ⟨rfl,hb3⟩;have HB23 := qhid (HB2.out.trans (hb3.mono HB2.out.size));have HM2 := qhid (means_any w3 ab c (HAU.out.up HB23.out) mW1 (by decide) (by decide));rw [show mW1.size = 1 from rfl,HNO.out] at HM2;clear hb3 HM k0 k1 k2
 go_wp2_with fail
 refine HM2.out.mono ?_;rintro y w4 ⟨rfl,hb4⟩;have HB4 := qhid (HB1.out.trans ((HB23.out.trans (hb4.mono HB23.out.size)).mono HB1.out.size));clear hb4 HM2
 go_wp2_with fail
 go_ret
 exact ⟨rfl,HB4.out⟩
theorem membernone_any (s : ByteArray) (w : World) (hT : Tab w) : Calls Tryz.prog 5 #[.string s] w fun e w' => e = .returned (.bool true) /\ Below w.heap.size w w' := by
 have AW := qhid (fun X (hX : Below w.heap.size w X) => member_awake X (hT.below hX hT.lt))
 by_cases hs : 60 < s.size
 ·have AW0 := qhid (AW.out w (Below.refl _ _));clear hT AW
  go_enter Tryz.func5,Tryz.ntmps5
  go_wp2_with fail
  refine AW0.out.mono ?_;rintro y w8 ⟨rfl,hb⟩;have HB := qhid hb;clear hb
  go_wp2_with fail
  go_ret
  exact ⟨rfl,HB.out⟩
 ·clear hT
  go_enter Tryz.func5,Tryz.ntmps5
  go_wp2_with fail
  refine (shortest_nil _).mono ?_;rintro y w1 ⟨rfl,hb⟩;have HB1 := qhid hb;clear hb
  go_wp2_with fail
  refine (within_nil s _).mono ?_;rintro y w2 ⟨rfl,hw⟩;obtain rfl := hw
  go_wp2_with fail
  refine (means_nil s _).mono ?_;rintro y w2 ⟨rfl,hw⟩;obtain rfl := hw
  go_wp2_with fail
  refine (alive_nil s _).mono ?_;rintro y w2 ⟨rfl,hw⟩;obtain rfl := hw
  go_wp2_with fail
  refine (next_nil _ _ _).mono ?_;rintro y w3 ⟨rfl,hw⟩;have hb := below1 w2 (.cells #[.int .i64 0] 3);rw [<- hw] at hb;have HB3 := qhid (HB1.out.trans (hb.mono HB1.out.size));clear hb hw HB1
  go_wp2_with fail
  refine (ends_nil _ _).mono ?_;rintro y w4 ⟨rfl,hw⟩;have hb := below1 w3 (.cells #[.int .i64 0] 3);rw [<- hw] at hb;have HB4 := qhid (HB3.out.trans (hb.mono HB3.out.size));clear hb hw HB3
  go_wp2_with fail
  refine (beginnings_nil s _).mono ?_;rintro y w5 ⟨rfl,hw⟩;obtain rfl := hw
  go_wp2_with fail
  refine (reached_nil _).mono ?_;rintro y w6 ⟨rfl,hw⟩;obtain rfl := hw
  go_wp2_with fail
  refine (AW.out _ HB4.out).mono ?_;rintro y w8 ⟨rfl,hb⟩;have HB8 := qhid (HB4.out.trans (hb.mono HB4.out.size));clear hb HB4 AW
  go_wp2_with fail
  go_ret
  exact ⟨rfl,HB8.out⟩
end
end
end Go.Proofs.YtnmalggmbeipaaaGreatDoor
