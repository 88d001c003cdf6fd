/- A part of the proof. -/
import Derived.Test.YtnmalggmbeipaaaGreatDoorPaZ
set_option maxRecDepth 100000
set_option maxHeartbeats 16000000
namespace Go.Proofs.YtnmalggmbeipaaaGreatDoor
section
open Go Go.RowKit
attribute [local go_sem ↓] Go.wp_at_zero Go.wp_at_succ
attribute [local go_sem] eq4
structure OneS (m n : Nat) (W0 : World) (R : World -> Prop) (l : Array Bool) (X : World) : Prop where
 ahead : l.getD n false = false -> X = W0
 done : l.getD n false = true -> R X
 ord : l.getD n false = true -> ∀ i,i < m -> l.getD i false = true
theorem OneS.at {m n i : Nat} {W0 : World} {R : World -> Prop} {l : Array Bool} {X : World} (h : OneS m n W0 R l X) (hun : l.getD i false = false) (hi : i < m) : X = W0 := by
 cases e : l.getD n false with
 | false => exact h.ahead e
 | true => rw [h.ord e i hi] at hun;cases hun
theorem OneS.up {m n i : Nat} {W0 : World} {R : World -> Prop} {l : Array Bool} {X : World} (h : OneS m n W0 R l X) (hi : i ≠ n) : OneS m n W0 R (l.setIfInBounds i true) X := by
 refine ⟨fun e => ?_,fun e => ?_,fun e j hj => ?_⟩
 ·rw [getD_set_ne false hi] at e;exact h.ahead e
 ·rw [getD_set_ne false hi] at e;exact h.done e
 ·rw [getD_set_ne false hi] at e;exact getD_set_true (h.ord e j hj)
theorem OneS.put {m n : Nat} {W0 : World} {R : World -> Prop} {l : Array Bool} {X Y : World} (_ : OneS m n W0 R l X) (hin : n < l.size) (hl : ∀ i,i < m -> l.getD i false = true) (_ : m <= n) (hR : R Y) : OneS m n W0 R (l.setIfInBounds n true) Y := by
 refine ⟨fun e => ?_,fun _ => hR,fun _ j hj => getD_set_true (hl j hj)⟩;rw [Reg.set_self hin] at e;cases e
theorem OneS.start (m n k : Nat) (W0 : World) (R : World -> Prop) : OneS m n W0 R (Array.replicate k false) W0 :=
 ⟨fun _ => rfl,fun e => by simp [Array.getD_eq_getD_getElem?,Array.getElem?_replicate] at e;split at e <;> simp_all,fun e => by simp [Array.getD_eq_getD_getElem?,Array.getElem?_replicate] at e;split at e <;> simp_all⟩
def leTold1 (fb pb n q fn : Nat) (caps : Array Value) (v : Value) (x : Int) : Nat -> Value
 | 0 => .pointer (some ⟨fb,0,none⟩)
 | 1 => .pointer (some ⟨fb,0,none⟩)
 | 2 => .pointer (some ⟨fb,0,none⟩)
 | 3 => .func (.func fn) #[] caps
 | 4 => .pointer (some ⟨pb,n * 2,none⟩)
 | 5 => .pointer (some ⟨pb,n * 2,none⟩)
 | 6 => .pointer (some ⟨pb,n * 2,none⟩)
 | 7 => ndPtr q
 | 8 => .pointer (some ⟨pb,n * 2,none⟩)
 | 9 => .pointer (some ⟨pb,n * 2,none⟩)
 | 10 => .pointer (some ⟨pb,n * 2 + 1,none⟩)
 | 11 => v
 | 12 => .int .i64 x
 | 13 => .int .i64 x
 | _ => undef
def leTold2 (fb pb n q mb : Nat) (x : Int) : Nat -> Value
 | 0 => .pointer (some ⟨fb,0,none⟩)
 | 1 => .pointer (some ⟨fb,0,none⟩)
 | 2 => .pointer (some ⟨fb,1,none⟩)
 | 3 => .map (some mb)
 | 4 => .pointer (some ⟨pb,n * 2,none⟩)
 | 5 => .pointer (some ⟨pb,n * 2,none⟩)
 | 6 => .pointer (some ⟨pb,n * 2,none⟩)
 | 7 => ndPtr q
 | 8 => .int .i64 x
 | _ => undef
def leTold3 (fb pb n cap : Nat) : Nat -> Value
 | 0 => .pointer (some ⟨fb,0,none⟩)
 | 1 => .pointer (some ⟨fb,0,none⟩)
 | 2 => .pointer (some ⟨fb,0,none⟩)
 | 3 => .pointer (some ⟨fb,2,none⟩)
 | 4 => .slice (some ⟨pb,0,none⟩) (n + 1) cap
 | 5 => .pointer (some ⟨fb,0,none⟩)
 | 6 => .pointer (some ⟨fb,0,none⟩)
 | 7 => .pointer (some ⟨fb,2,none⟩)
 | 8 => .slice (some ⟨pb,0,none⟩) (n + 1) cap
 | 9 => .int .i64 ((n : Int) + 1)
 | 10 => .int .i64 (n : Int)
 | 11 => .slice (some ⟨pb,0,none⟩) n cap
 | 12 => .pointer (some ⟨fb,0,none⟩)
 | 13 => .pointer (some ⟨fb,2,none⟩)
 | _ => undef
theorem FoAt.cap_le {w : World} {B fb pb cap : Nat} {S : List Stp} {F M : Value} (h : FoAt w B fb pb cap S F M) : S.length <= cap := by
 rcases h.row.2 with ⟨e,_⟩ | ⟨g,c,cur,e,hb,hh,hn,hm,hs,ht⟩
 ·cases e
 ·simp only [Value.slice.injEq,Option.some.injEq,Addr.mk.injEq,and_true,true_and] at e;omega
theorem grown_below {w w1 : World} (r : Option Nat) (h : Below w.heap.size w w1) : w.grownBy w1 r := ⟨h.os,h.tape,h.output,h.size,fun k hk _ => h.block k hk⟩
theorem PtrMap.below {w w1 : World} {mb : Nat} {D : List (Nat × Int)} (h : PtrMap w mb D) (hb : Below w.heap.size w w1) : PtrMap w1 mb D := by
 obtain ⟨es,c,h1,h2⟩ := h;exact ⟨es,c,(hb.block mb (jS h1)).trans h1,h2⟩
theorem IsC.below {w w1 : World} {q : Nat} (h : IsC w q) (hb : Below w.heap.size w w1) : IsC w1 q := by
 obtain ⟨c,t,h1⟩ := h;exact ⟨c,t,(hb.block q (jS h1)).trans h1⟩
theorem pleave_any (B fb pb cap mb n q : Nat) (S : List Stp) (s0 : Stp) (ps : List Int) (v : Value) (w : World) (fn : FuncId) (caps : Array Value) (h : FoAt w B fb pb cap (S ++ [s0] ++ [⟨q,ps,v⟩]) (.func (.func fn) #[] caps) (.map (some mb))) (hnn : n = S.length + 1) (hS : n <= 1099511627776) (hps : s0.ps.length <= 1099511627776) (hmf : mb ≠ fb) (hmB : mb < B)
  (D : List (Nat × Int)) (hM : PtrMap w mb D) (hD : ∀ p ∈ D,IsC w p.1) (hq : IsC w q) (x : Int)
  (hcf : ∀ args W,(callFunc fn args).run Tryz.prog W = .ok (.enter fn args) W)
  (hn : ∀ X,Below w.heap.size w X -> Calls Tryz.prog fn (#[ndPtr q,v] ++ caps) X fun e w' => e = .returned (.int .i64 x) /\ Below X.heap.size X w') :
  Calls Tryz.prog 147 #[.pointer (some ⟨fb,0,none⟩)] w fun e w' => e = .returned (.tuple #[]) /\ (∃ v4,FoAt w' B fb pb cap (S ++ [⟨s0.q,s0.ps ++ [x],v4⟩]) (.func (.func fn) #[] caps) (.map (some mb))) /\ PtrMap w' mb (putD D q x) /\ FoKeep B fb mb w w' := by
 have hw : IntKind.i64.wrap (n : Int) = (n : Int) := by simp [IntKind.wrap,IntKind.signed,IntKind.bits];omega
 have hl1 : (S ++ [s0]).length = n := by simp;omega
 have hl2 : (S ++ [s0] ++ [(⟨q,ps,v⟩ : Stp)]).length = n + 1 := by simp;omega
 have hcap := h.cap_le;rw [hl2] at hcap;have hnc : n <= cap := by omega
 have hc2 := h.c2;rw [hl2] at hc2;have LA := qhid (plast_any fb pb n cap w hc2 hS);have H0 := qhid h;have HM := qhid hM;have HD := qhid hD;have HQ := qhid hq;have HN := qhid (fun X (hX : Below w.drew.drew.heap.size w.drew.drew X) => hn X ((Below.refl _ _).drew.drew.trans hX));have hfl0 := h.lt;have hpl0 := h.pb_lt.2;have ht := h.top;rw [hl1] at ht;have HT0 : Hid (w.drew.drew.cell? ⟨pb,n * 2,none⟩ = some (ndPtr q)) := qhid ht.1;have HT1 : Hid (w.drew.drew.cell? ⟨pb,n * 2 + 1,none⟩ = some v) := qhid ht.2.1;have HC0 : Hid (w.drew.drew.cell? ⟨fb,0,none⟩ = some (Value.func (.func fn) #[] caps)) := qhid h.c0;have HL1 := qhid hl1;have HNN := qhid hnn;clear h hM hD hn hc2 hq ht hl1 hl2 hnn
 go_enter Tryz.func147,Tryz.ntmps147
 go_wp2_with fail
 refine LA.out.mono ?_;rintro e w1 ⟨rfl,hw1⟩;have HW1 : Hid (w1.drew = w.drew.drew) := qhid (by rw [hw1]);clear hw1 LA
 go_wp2_with fail
 obtain ⟨W0,hW0⟩ : ∃ X,X = w.drew.drew := ⟨_,rfl⟩;have HB0 : Hid (Below w.heap.size w W0) := qhid (by rw [hW0];exact (Below.refl _ _).drew.drew);rw [<- hW0] at HN HT0 HT1 HC0 HW1;have hfl : fb < W0.heap.size := by rw [hW0];exact hfl0
 have hpl : pb < W0.heap.size := by rw [hW0];exact hpl0
 clear hW0;refine Reg.wp_region_S (leTold1 fb pb n q fn caps v x) (fun _ X => Below W0.heap.size W0 X) [0,1,2,3,4,5,6,7,8,9,10,11,12,13] (by rfl) (by kernel_rfl) (by kernel_rfl) ?_ ?_ ?_
 ·rw [HW1.out];exact Below.refl _ _
 ·refine ⟨fun listed A X hI hin hun hall => .inl ⟨Reg.wanted_none rfl,?_⟩,?_⟩
  ·have e0 := hI.evo (d := 0) (by kernel_rfl) rfl;have HS := hI.st;clear hI hall;unfold Reg.Yields
   go_simp
   first | rfl | exact ⟨rfl,HS⟩ | exact ⟨HS,rfl⟩ | (refine ⟨?_,HS⟩;simp [leTold1])
  refine ⟨fun listed A X hI hin hun hall => .inl ⟨Reg.wanted_none rfl,?_⟩,?_⟩
  ·have e6 : A.tmps[6]? = some (.pointer (some ⟨fb,0,none⟩)) := hI.ev (i := 0) (d := 6) (by rfl) (hall ⟨0,.data⟩ (by simp) rfl);have HS := hI.st;clear hI hall;unfold Reg.Yields
   go_simp
   first | rfl | exact ⟨rfl,HS⟩ | exact ⟨HS,rfl⟩ | (refine ⟨?_,HS⟩;simp [leTold1])
  refine ⟨fun listed A X hI hin hun hall => .inl ⟨Reg.wanted_none rfl,?_⟩,?_⟩
  ·have e7 : A.tmps[7]? = some (.pointer (some ⟨fb,0,none⟩)) := hI.ev (i := 1) (d := 7) (by rfl) (hall ⟨1,.data⟩ (by simp) rfl);have HS := hI.st;clear hI hall;unfold Reg.Yields
   go_simp
   first | rfl | exact ⟨rfl,HS⟩ | exact ⟨HS,rfl⟩ | (refine ⟨?_,HS⟩;simp [leTold1])
  refine ⟨fun listed A X hI hin hun hall => .inl ⟨Reg.wanted_none rfl,?_⟩,?_⟩
  ·have e8 : A.tmps[8]? = some (.pointer (some ⟨fb,0,none⟩)) := hI.ev (i := 2) (d := 8) (by rfl) (hall ⟨2,.data⟩ (by simp) rfl);have HS := hI.st;have k0 : X.cell? ⟨fb,0,none⟩ = some (Value.func (.func fn) #[] caps) := (World.cell?_of_block (w := W0) (a := ⟨fb,0,none⟩) (HS.block _ (by first | exact hfl | exact hpl))).trans HC0.out;clear hI hall;unfold Reg.Yields
   go_simp
   first | rfl | exact ⟨rfl,HS⟩ | exact ⟨HS,rfl⟩ | (refine ⟨?_,HS⟩;simp [leTold1])
  refine ⟨fun listed A X hI hin hun hall => .inl ⟨Reg.wanted_none rfl,?_⟩,?_⟩
  ·have e2 := hI.evo (d := 2) (by kernel_rfl) rfl;have HS := hI.st;clear hI hall;unfold Reg.Yields
   go_simp
   first | rfl | exact ⟨rfl,HS⟩ | exact ⟨HS,rfl⟩ | (refine ⟨?_,HS⟩;simp [leTold1])
  refine ⟨fun listed A X hI hin hun hall => .inl ⟨Reg.wanted_none rfl,?_⟩,?_⟩
  ·have e10 : A.tmps[10]? = some (.pointer (some ⟨pb,n * 2,none⟩)) := hI.ev (i := 4) (d := 10) (by rfl) (hall ⟨4,.data⟩ (by simp) rfl);have HS := hI.st;clear hI hall;unfold Reg.Yields
   go_simp
   first | rfl | exact ⟨rfl,HS⟩ | exact ⟨HS,rfl⟩ | (refine ⟨?_,HS⟩;simp [leTold1])
  refine ⟨fun listed A X hI hin hun hall => .inl ⟨Reg.wanted_none rfl,?_⟩,?_⟩
  ·have e11 : A.tmps[11]? = some (.pointer (some ⟨pb,n * 2,none⟩)) := hI.ev (i := 5) (d := 11) (by rfl) (hall ⟨5,.data⟩ (by simp) rfl);have HS := hI.st;clear hI hall;unfold Reg.Yields
   go_simp
   first | rfl | exact ⟨rfl,HS⟩ | exact ⟨HS,rfl⟩ | (refine ⟨?_,HS⟩;simp [leTold1])
  refine ⟨fun listed A X hI hin hun hall => .inl ⟨Reg.wanted_none rfl,?_⟩,?_⟩
  ·have e12 : A.tmps[12]? = some (.pointer (some ⟨pb,n * 2,none⟩)) := hI.ev (i := 6) (d := 12) (by rfl) (hall ⟨6,.data⟩ (by simp) rfl);have HS := hI.st;have k0 : X.cell? ⟨pb,n * 2,none⟩ = some (ndPtr q) := (World.cell?_of_block (w := W0) (a := ⟨pb,n * 2,none⟩) (HS.block _ (by first | exact hfl | exact hpl))).trans HT0.out;clear hI hall;unfold Reg.Yields
   go_simp
   first | rfl | exact ⟨rfl,HS⟩ | exact ⟨HS,rfl⟩ | (refine ⟨?_,HS⟩;simp [leTold1])
  refine ⟨fun listed A X hI hin hun hall => .inl ⟨Reg.wanted_none rfl,?_⟩,?_⟩
  ·have e2 := hI.evo (d := 2) (by kernel_rfl) rfl;have HS := hI.st;clear hI hall;unfold Reg.Yields
   go_simp
   first | rfl | exact ⟨rfl,HS⟩ | exact ⟨HS,rfl⟩ | (refine ⟨?_,HS⟩;simp [leTold1])
  refine ⟨fun listed A X hI hin hun hall => .inl ⟨Reg.wanted_none rfl,?_⟩,?_⟩
  ·have e14 : A.tmps[14]? = some (.pointer (some ⟨pb,n * 2,none⟩)) := hI.ev (i := 8) (d := 14) (by rfl) (hall ⟨8,.data⟩ (by simp) rfl);have HS := hI.st;clear hI hall;unfold Reg.Yields
   go_simp
   first | rfl | exact ⟨rfl,HS⟩ | exact ⟨HS,rfl⟩ | (refine ⟨?_,HS⟩;simp [leTold1])
  refine ⟨fun listed A X hI hin hun hall => .inl ⟨Reg.wanted_none rfl,?_⟩,?_⟩
  ·have e15 : A.tmps[15]? = some (.pointer (some ⟨pb,n * 2,none⟩)) := hI.ev (i := 9) (d := 15) (by rfl) (hall ⟨9,.data⟩ (by simp) rfl);have HS := hI.st;clear hI hall;unfold Reg.Yields
   go_simp
   first | rfl | exact ⟨rfl,HS⟩ | exact ⟨HS,rfl⟩ | (refine ⟨?_,HS⟩;simp [leTold1])
  refine ⟨fun listed A X hI hin hun hall => .inl ⟨Reg.wanted_none rfl,?_⟩,?_⟩
  ·have e16 : A.tmps[16]? = some (.pointer (some ⟨pb,n * 2 + 1,none⟩)) := hI.ev (i := 10) (d := 16) (by rfl) (hall ⟨10,.data⟩ (by simp) rfl);have HS := hI.st;have k0 : X.cell? ⟨pb,n * 2 + 1,none⟩ = some (v) := (World.cell?_of_block (w := W0) (a := ⟨pb,n * 2 + 1,none⟩) (HS.block _ (by first | exact hfl | exact hpl))).trans HT1.out;clear hI hall;unfold Reg.Yields
   go_simp
   first | rfl | exact ⟨rfl,HS⟩ | exact ⟨HS,rfl⟩ | (refine ⟨?_,HS⟩;simp [leTold1])
  refine ⟨fun listed A X hI hin hun hall => .inl ⟨Reg.wanted_none rfl,?_⟩,?_⟩
  ·have e9 : A.tmps[9]? = some (Value.func (.func fn) #[] caps) := hI.ev (i := 3) (d := 9) (by rfl) (hall ⟨3,.data⟩ (by simp) rfl);have e13 : A.tmps[13]? = some (ndPtr q) := hI.ev (i := 7) (d := 13) (by rfl) (hall ⟨7,.data⟩ (by simp) rfl);have e17 : A.tmps[17]? = some (v) := hI.ev (i := 11) (d := 17) (by rfl) (hall ⟨11,.data⟩ (by simp) rfl);have HS := hI.st;have CN := HN.out X HS;clear hI hall;unfold Reg.Yields
   go_simp
   exact CN.mono fun e w'' ⟨he,hb⟩ => ⟨_,he,rfl,HS.trans (hb.mono HS.size)⟩
  refine ⟨fun listed A X hI hin hun hall => .inl ⟨Reg.wanted_none rfl,?_⟩,?_⟩
  ·have e18 : A.tmps[18]? = some (.int .i64 x) := hI.ev (i := 12) (d := 18) (by rfl) (hall ⟨12,.data⟩ (by simp) rfl);have HS := hI.st;clear hI hall;unfold Reg.Yields
   go_simp
   first | rfl | exact ⟨rfl,HS⟩ | exact ⟨HS,rfl⟩ | (refine ⟨?_,HS⟩;simp [leTold1])
  trivial
 ·intro W2 hS;have HBA := qhid ((HB0.out.trans (hS.mono HB0.out.size)).drew);clear hS hfl hpl HT0 HT1 HC0 HW1 HN HB0 hcf;simp [Reg.finalTmps,Reg.dstAt,Reg.valOf,leTold1]
  go_wp2_with fail
  obtain ⟨W3,hW3⟩ : ∃ X,X = W2.drew := ⟨_,rfl⟩;rw [<- hW3] at HBA;have HW3 : Hid (W2.drew = W3) := qhid hW3.symm;clear hW3;have h3 := H0.out.mapped hmf hmB (grown_below _ HBA.out);have hM3 := HM.out.below HBA.out;have hD3 : ∀ p ∈ D,IsC W3 p.1 := fun p hp => (HD.out p hp).below HBA.out
  obtain ⟨w1,hup,hM1,hg1⟩ := update_ptr x hM3 (HQ.out.below HBA.out) hD3;have HUP := qhid hup;have HM1 := qhid hM1;have HG1 := qhid hg1;have HC1 := qhid h3.c1;have ht := h3.top;rw [HL1.out] at ht;have HT0 := qhid ht.1;have H3 := qhid h3;have hfl := h3.lt;have hpl := h3.pb_lt.2;clear hup hM1 hg1 h3 hM3 hD3 ht;refine Reg.wp_region_S (leTold2 fb pb n q mb x) (OneS 9 9 W3 (fun X => X = w1)) [0,1,2,3,4,5,6,7,8,9] (by rfl) (by kernel_rfl) (by kernel_rfl) ?_ ?_ ?_
  ·rw [HW3.out];exact OneS.start _ _ _ _ _
  ·refine ⟨fun listed A X hI hin hun hall => .inl ⟨Reg.wanted_none rfl,?_⟩,?_⟩
   ·have e0 := hI.evo (d := 0) (by kernel_rfl) rfl;have HS := hI.st;clear hI hall;unfold Reg.Yields
    go_simp
    first | rfl | exact ⟨rfl,HS.up (by decide)⟩ | (refine ⟨?_,HS.up (by decide)⟩;simp [leTold2])
   refine ⟨fun listed A X hI hin hun hall => .inl ⟨Reg.wanted_none rfl,?_⟩,?_⟩
   ·have e19 : A.tmps[19]? = some (.pointer (some ⟨fb,0,none⟩)) := hI.ev (i := 0) (d := 19) (by rfl) (hall ⟨0,.data⟩ (by simp) rfl);have HS := hI.st;clear hI hall;unfold Reg.Yields
    go_simp
    first | rfl | exact ⟨rfl,HS.up (by decide)⟩ | (refine ⟨?_,HS.up (by decide)⟩;simp [leTold2])
   refine ⟨fun listed A X hI hin hun hall => .inl ⟨Reg.wanted_none rfl,?_⟩,?_⟩
   ·have e20 : A.tmps[20]? = some (.pointer (some ⟨fb,0,none⟩)) := hI.ev (i := 1) (d := 20) (by rfl) (hall ⟨1,.data⟩ (by simp) rfl);have HS := hI.st;clear hI hall;unfold Reg.Yields
    go_simp
    first | rfl | exact ⟨rfl,HS.up (by decide)⟩ | (refine ⟨?_,HS.up (by decide)⟩;simp [leTold2])
   refine ⟨fun listed A X hI hin hun hall => .inl ⟨Reg.wanted_none rfl,?_⟩,?_⟩
   ·have e21 : A.tmps[21]? = some (.pointer (some ⟨fb,1,none⟩)) := hI.ev (i := 2) (d := 21) (by rfl) (hall ⟨2,.data⟩ (by simp) rfl);have HS := hI.st;have hX := (HS.at (by simpa using hun) (by decide)).symm;subst hX;have k0 := HC1.out;clear hI hall;unfold Reg.Yields
    go_simp
    first | rfl | exact ⟨rfl,HS.up (by decide)⟩ | (refine ⟨?_,HS.up (by decide)⟩;simp [leTold2])
   refine ⟨fun listed A X hI hin hun hall => .inl ⟨Reg.wanted_none rfl,?_⟩,?_⟩
   ·have e2 := hI.evo (d := 2) (by kernel_rfl) rfl;have HS := hI.st;clear hI hall;unfold Reg.Yields
    go_simp
    first | rfl | exact ⟨rfl,HS.up (by decide)⟩ | (refine ⟨?_,HS.up (by decide)⟩;simp [leTold2])
   refine ⟨fun listed A X hI hin hun hall => .inl ⟨Reg.wanted_none rfl,?_⟩,?_⟩
   ·have e23 : A.tmps[23]? = some (.pointer (some ⟨pb,n * 2,none⟩)) := hI.ev (i := 4) (d := 23) (by rfl) (hall ⟨4,.data⟩ (by simp) rfl);have HS := hI.st;clear hI hall;unfold Reg.Yields
    go_simp
    first | rfl | exact ⟨rfl,HS.up (by decide)⟩ | (refine ⟨?_,HS.up (by decide)⟩;simp [leTold2])
   refine ⟨fun listed A X hI hin hun hall => .inl ⟨Reg.wanted_none rfl,?_⟩,?_⟩
   ·have e24 : A.tmps[24]? = some (.pointer (some ⟨pb,n * 2,none⟩)) := hI.ev (i := 5) (d := 24) (by rfl) (hall ⟨5,.data⟩ (by simp) rfl);have HS := hI.st;clear hI hall;unfold Reg.Yields
    go_simp
    first | rfl | exact ⟨rfl,HS.up (by decide)⟩ | (refine ⟨?_,HS.up (by decide)⟩;simp [leTold2])
   refine ⟨fun listed A X hI hin hun hall => .inl ⟨Reg.wanted_none rfl,?_⟩,?_⟩
   ·have e25 : A.tmps[25]? = some (.pointer (some ⟨pb,n * 2,none⟩)) := hI.ev (i := 6) (d := 25) (by rfl) (hall ⟨6,.data⟩ (by simp) rfl);have HS := hI.st;have hX := (HS.at (by simpa using hun) (by decide)).symm;subst hX;have k0 := HT0.out;clear hI hall;unfold Reg.Yields
    go_simp
    first | rfl | exact ⟨rfl,HS.up (by decide)⟩ | (refine ⟨?_,HS.up (by decide)⟩;simp [leTold2])
   refine ⟨fun listed A X hI hin hun hall => .inl ⟨Reg.wanted_none rfl,?_⟩,?_⟩
   ·have e3 := hI.evo (d := 3) (by kernel_rfl) rfl;have HS := hI.st;clear hI hall;unfold Reg.Yields
    go_simp
    first | rfl | exact ⟨rfl,HS.up (by decide)⟩ | (refine ⟨?_,HS.up (by decide)⟩;simp [leTold2])
   refine ⟨fun listed A X hI hin hun hall => .inl ⟨Reg.wanted_none rfl,?_⟩,?_⟩
   ·have e22 : A.tmps[22]? = some (.map (some mb)) := hI.ev (i := 3) (d := 22) (by rfl) (hall ⟨3,.data⟩ (by simp) rfl);have e26 : A.tmps[26]? = some (ndPtr q) := hI.ev (i := 7) (d := 26) (by rfl) (hall ⟨7,.data⟩ (by simp) rfl);have e27 : A.tmps[27]? = some (.int .i64 x) := hI.ev (i := 8) (d := 27) (by rfl) (hall ⟨8,.data⟩ (by simp) rfl);have HS := hI.st
    have hl : ∀ i,i < 9 -> listed.getD i false = true := fun i hi => match i,hi with | 0,_ => hall ⟨0,.phase⟩ (by simp) rfl | 1,_ => hall ⟨1,.phase⟩ (by simp) rfl | 2,_ => hall ⟨2,.phase⟩ (by simp) rfl | 3,_ => hall ⟨3,.phase⟩ (by simp) rfl | 4,_ => hall ⟨4,.phase⟩ (by simp) rfl | 5,_ => hall ⟨5,.phase⟩ (by simp) rfl | 6,_ => hall ⟨6,.phase⟩ (by simp) rfl | 7,_ => hall ⟨7,.phase⟩ (by simp) rfl | 8,_ => hall ⟨8,.phase⟩ (by simp) rfl | j + 9,hj => absurd hj (by omega)
    have hn9 : listed.getD 9 false = false := by simpa using hun
    have hX := (HS.ahead hn9).symm;subst hX;have hup := HUP.out;clear hI hall;unfold Reg.Yields
    go_simp
    exact ⟨rfl,HS.put hin hl (by decide) rfl⟩
   trivial
  ·intro W4 hS;obtain rfl : w1 = W4 := (hS.done (by rfl)).symm;have h5 := H3.out.mapped (w1 := w1.drew) hmf hmB ⟨HG1.out.os,HG1.out.tape,HG1.out.output,HG1.out.size,HG1.out.block⟩;have hfl5 := h5.lt;clear hS HT0 HC1 HUP hfl hpl HW3;simp [Reg.finalTmps,Reg.dstAt,Reg.valOf,leTold2]
   go_wp2_with fail
   obtain ⟨W5,hW5⟩ : ∃ X,X = w1.drew := ⟨_,rfl⟩;rw [<- hW5] at h5 hfl5;have HW5 : Hid (w1.drew = W5) := qhid hW5.symm;have HB5 : Hid (W5.heap = w1.heap /\ W5.os = w1.os /\ W5.tape = w1.tape /\ W5.output = w1.output) := qhid (by rw [hW5];exact ⟨rfl,rfl,rfl,rfl⟩);clear hW5;have hc2 := h5.c2;rw [show (S ++ [s0] ++ [(⟨q,ps,v⟩ : Stp)]).length = n + 1 by simp;have := HNN.out;omega] at hc2;have HC2 := qhid hc2;have HFZ := qhid h5.fz;have hp5 := h5.pop;rw [HL1.out] at hp5;have hpb5 := h5.pb_lt;have HP5 := qhid hp5;have FT := qhid (ftell_any B fb pb cap S s0 _ _ x _ hp5 (by have := HNN.out;omega) hps);clear h5 hp5 hc2;refine Reg.wp_region_S (leTold3 fb pb n cap) (OneS 12 14 W5 (fun X => X = W5.setCell ⟨fb,2,none⟩ (.slice (some ⟨pb,0,none⟩) n cap))) [0,1,2,3,4,5,6,7,8,9,10,11,12,13,14] (by rfl) (by kernel_rfl) (by kernel_rfl) ?_ ?_ ?_
   ·rw [HW5.out];exact OneS.start _ _ _ _ _
   ·refine ⟨fun listed A X hI hin hun hall => .inl ⟨Reg.wanted_none rfl,?_⟩,?_⟩
    ·have e0 := hI.evo (d := 0) (by kernel_rfl) rfl;have HS := hI.st;clear hI hall;unfold Reg.Yields
     go_simp
     first | rfl | exact ⟨rfl,HS.up (by decide)⟩ | (refine ⟨?_,HS.up (by decide)⟩;simp [leTold3,hw])
    refine ⟨fun listed A X hI hin hun hall => .inl ⟨Reg.wanted_none rfl,?_⟩,?_⟩
    ·have e0 := hI.evo (d := 0) (by kernel_rfl) rfl;have HS := hI.st;clear hI hall;unfold Reg.Yields
     go_simp
     first | rfl | exact ⟨rfl,HS.up (by decide)⟩ | (refine ⟨?_,HS.up (by decide)⟩;simp [leTold3,hw])
    refine ⟨fun listed A X hI hin hun hall => .inl ⟨Reg.wanted_none rfl,?_⟩,?_⟩
    ·have e29 : A.tmps[29]? = some (.pointer (some ⟨fb,0,none⟩)) := hI.ev (i := 1) (d := 29) (by rfl) (hall ⟨1,.data⟩ (by simp) rfl);have HS := hI.st;clear hI hall;unfold Reg.Yields
     go_simp
     first | rfl | exact ⟨rfl,HS.up (by decide)⟩ | (refine ⟨?_,HS.up (by decide)⟩;simp [leTold3,hw])
    refine ⟨fun listed A X hI hin hun hall => .inl ⟨Reg.wanted_none rfl,?_⟩,?_⟩
    ·have e30 : A.tmps[30]? = some (.pointer (some ⟨fb,0,none⟩)) := hI.ev (i := 2) (d := 30) (by rfl) (hall ⟨2,.data⟩ (by simp) rfl);have HS := hI.st;clear hI hall;unfold Reg.Yields
     go_simp
     first | rfl | exact ⟨rfl,HS.up (by decide)⟩ | (refine ⟨?_,HS.up (by decide)⟩;simp [leTold3,hw])
    refine ⟨fun listed A X hI hin hun hall => .inl ⟨Reg.wanted_none rfl,?_⟩,?_⟩
    ·have e31 : A.tmps[31]? = some (.pointer (some ⟨fb,2,none⟩)) := hI.ev (i := 3) (d := 31) (by rfl) (hall ⟨3,.data⟩ (by simp) rfl);have HS := hI.st;have hX := (HS.at (by simpa using hun) (by decide)).symm;subst hX;have k0 := HC2.out;clear hI hall;unfold Reg.Yields
     go_simp
     first | rfl | exact ⟨rfl,HS.up (by decide)⟩ | (refine ⟨?_,HS.up (by decide)⟩;simp [leTold3,hw])
    refine ⟨fun listed A X hI hin hun hall => .inl ⟨Reg.wanted_none rfl,?_⟩,?_⟩
    ·have e0 := hI.evo (d := 0) (by kernel_rfl) rfl;have HS := hI.st;clear hI hall;unfold Reg.Yields
     go_simp
     first | rfl | exact ⟨rfl,HS.up (by decide)⟩ | (refine ⟨?_,HS.up (by decide)⟩;simp [leTold3,hw])
    refine ⟨fun listed A X hI hin hun hall => .inl ⟨Reg.wanted_none rfl,?_⟩,?_⟩
    ·have e33 : A.tmps[33]? = some (.pointer (some ⟨fb,0,none⟩)) := hI.ev (i := 5) (d := 33) (by rfl) (hall ⟨5,.data⟩ (by simp) rfl);have HS := hI.st;clear hI hall;unfold Reg.Yields
     go_simp
     first | rfl | exact ⟨rfl,HS.up (by decide)⟩ | (refine ⟨?_,HS.up (by decide)⟩;simp [leTold3,hw])
    refine ⟨fun listed A X hI hin hun hall => .inl ⟨Reg.wanted_none rfl,?_⟩,?_⟩
    ·have e34 : A.tmps[34]? = some (.pointer (some ⟨fb,0,none⟩)) := hI.ev (i := 6) (d := 34) (by rfl) (hall ⟨6,.data⟩ (by simp) rfl);have HS := hI.st;clear hI hall;unfold Reg.Yields
     go_simp
     first | rfl | exact ⟨rfl,HS.up (by decide)⟩ | (refine ⟨?_,HS.up (by decide)⟩;simp [leTold3,hw])
    refine ⟨fun listed A X hI hin hun hall => .inl ⟨Reg.wanted_none rfl,?_⟩,?_⟩
    ·have e35 : A.tmps[35]? = some (.pointer (some ⟨fb,2,none⟩)) := hI.ev (i := 7) (d := 35) (by rfl) (hall ⟨7,.data⟩ (by simp) rfl);have HS := hI.st;have hX := (HS.at (by simpa using hun) (by decide)).symm;subst hX;have k0 := HC2.out;clear hI hall;unfold Reg.Yields
     go_simp
     first | rfl | exact ⟨rfl,HS.up (by decide)⟩ | (refine ⟨?_,HS.up (by decide)⟩;simp [leTold3,hw])
    refine ⟨fun listed A X hI hin hun hall => .inl ⟨Reg.wanted_none rfl,?_⟩,?_⟩
    ·have e36 : A.tmps[36]? = some (.slice (some ⟨pb,0,none⟩) (n + 1) cap) := hI.ev (i := 8) (d := 36) (by rfl) (hall ⟨8,.data⟩ (by simp) rfl);have HS := hI.st;clear hI hall;unfold Reg.Yields
     go_simp
     first | rfl | exact ⟨rfl,HS.up (by decide)⟩ | (refine ⟨?_,HS.up (by decide)⟩;simp [leTold3,hw])
    refine ⟨fun listed A X hI hin hun hall => .inl ⟨Reg.wanted_none rfl,?_⟩,?_⟩
    ·have e37 : A.tmps[37]? = some (.int .i64 ((n : Int) + 1)) := hI.ev (i := 9) (d := 37) (by rfl) (hall ⟨9,.data⟩ (by simp) rfl);have HS := hI.st;clear hI hall;unfold Reg.Yields
     go_simp
     first | rfl | exact ⟨rfl,HS.up (by decide)⟩ | (refine ⟨?_,HS.up (by decide)⟩;simp [leTold3,hw])
    refine ⟨fun listed A X hI hin hun hall => .inl ⟨Reg.wanted_none rfl,?_⟩,?_⟩
    ·have e32 : A.tmps[32]? = some (.slice (some ⟨pb,0,none⟩) (n + 1) cap) := hI.ev (i := 4) (d := 32) (by rfl) (hall ⟨4,.data⟩ (by simp) rfl);have e38 : A.tmps[38]? = some (.int .i64 (n : Int)) := hI.ev (i := 10) (d := 38) (by rfl) (hall ⟨10,.data⟩ (by simp) rfl);have HS := hI.st;clear hI hall;unfold Reg.Yields
     go_simp
     first | rfl | exact ⟨rfl,HS.up (by decide)⟩ | (refine ⟨?_,HS.up (by decide)⟩;simp [leTold3,hw])
    refine ⟨fun listed A X hI hin hun hall => .inl ⟨Reg.wanted_none rfl,?_⟩,?_⟩
    ·have e28 : A.tmps[28]? = some (.pointer (some ⟨fb,0,none⟩)) := hI.ev (i := 0) (d := 28) (by rfl) (hall ⟨0,.data⟩ (by simp) rfl);have HS := hI.st;clear hI hall;unfold Reg.Yields
     go_simp
     first | rfl | exact ⟨rfl,HS.up (by decide)⟩ | (refine ⟨?_,HS.up (by decide)⟩;simp [leTold3,hw])
    refine ⟨fun listed A X hI hin hun hall => .inl ⟨Reg.wanted_none rfl,?_⟩,?_⟩
    ·have e40 : A.tmps[40]? = some (.pointer (some ⟨fb,0,none⟩)) := hI.ev (i := 12) (d := 40) (by rfl) (hall ⟨12,.data⟩ (by simp) rfl);have HS := hI.st;clear hI hall;unfold Reg.Yields
     go_simp
     first | rfl | exact ⟨rfl,HS.up (by decide)⟩ | (refine ⟨?_,HS.up (by decide)⟩;simp [leTold3,hw])
    refine ⟨fun listed A X hI hin hun hall => .inl ⟨Reg.wanted_none rfl,?_⟩,?_⟩
    ·have e41 : A.tmps[41]? = some (.pointer (some ⟨fb,2,none⟩)) := hI.ev (i := 13) (d := 41) (by rfl) (hall ⟨13,.data⟩ (by simp) rfl);have e39 : A.tmps[39]? = some (.slice (some ⟨pb,0,none⟩) n cap) := hI.ev (i := 11) (d := 39) (by rfl) (hall ⟨11,.data⟩ (by simp) rfl);have HS := hI.st
     have hl : ∀ i,i < 12 -> listed.getD i false = true := fun i hi => match i,hi with | 0,_ => hall ⟨0,.phase⟩ (by simp) rfl | 1,_ => hall ⟨1,.phase⟩ (by simp) rfl | 2,_ => hall ⟨2,.phase⟩ (by simp) rfl | 3,_ => hall ⟨3,.phase⟩ (by simp) rfl | 4,_ => hall ⟨4,.phase⟩ (by simp) rfl | 5,_ => hall ⟨5,.phase⟩ (by simp) rfl | 6,_ => hall ⟨6,.phase⟩ (by simp) rfl | 7,_ => hall ⟨7,.phase⟩ (by simp) rfl | 8,_ => hall ⟨8,.phase⟩ (by simp) rfl | 9,_ => hall ⟨9,.phase⟩ (by simp) rfl | 10,_ => hall ⟨10,.phase⟩ (by simp) rfl | 11,_ => hall ⟨11,.phase⟩ (by simp) rfl | j + 12,hj => absurd hj (by omega)
     have hn14 : listed.getD 14 false = false := by simpa using hun
     have hX := (HS.ahead hn14).symm;subst hX;have k0 := HC2.out;have k1 := HFZ.out;clear hI hall;unfold Reg.Yields
     go_simp
     exact ⟨rfl,HS.put hin hl (by decide) rfl⟩
    trivial
   ·intro W6 hS;have h6 := hS.done (by rfl);subst h6;clear hS HC2 HFZ;simp [Reg.finalTmps,Reg.dstAt,Reg.valOf,leTold3];obtain ⟨W6,hW6⟩ : ∃ X,X = W5.setCell ⟨fb,2,none⟩ (.slice (some ⟨pb,0,none⟩) n cap) := ⟨_,rfl⟩;rw [<- hW6] at FT HP5;rw [<- hW6];have HW6 := qhid hW6;clear hW6
    go_wp2_with fail
    refine FT.out.mono ?_;rintro e w7 ⟨rfl,v4,h7,hb7⟩;have HB7 := qhid hb7;have HF7 := qhid h7;clear FT HP5 hb7 h7
    go_wp2_with fail
    go_end0
    have hB5 := HB5.out;have h1 : W6.heap.size = w1.heap.size := by rw [HW6.out,World.size_setCell,hB5.1]
    have hB : B <= w.heap.size := by have := H0.out.pb_lt;omega
    have hsz3 := HBA.out.size;have old : ∀ k,k ≠ fb -> W6.heap[k]? = w1.heap[k]? := fun k hk => by rw [HW6.out];exact (Below.heap_setCell W5 ⟨fb,2,none⟩ _ k hk).trans (by rw [hB5.1])
    refine ⟨rfl,⟨v4,HF7.out⟩,?_,?_⟩
    ·obtain ⟨es,c,g1,g2⟩ := HM1.out;exact ⟨es,c,(HB7.out.block mb hmB).trans ((old mb hmf).trans g1),g2⟩
    ·refine (FoKeep.below (HBA.out.mono hB)).trans (FoKeep.trans (w1 := w1) ⟨HG1.out.os,HG1.out.tape,HG1.out.output,HG1.out.size,fun k hk _ h2 => HG1.out.block k (by omega) (fun e => h2 (Option.some.inj e))⟩ (FoKeep.trans (w1 := W6) ⟨?_,?_,?_,by omega,fun k hk h1 _ => old k h1⟩ (FoKeep.below HB7.out)))
     ·rw [HW6.out];exact hB5.2.1
     ·rw [HW6.out];exact hB5.2.2.1
     ·rw [HW6.out];exact hB5.2.2.2
theorem FoAt.below {w w1 : World} {B fb pb cap : Nat} {S : List Stp} {F M : Value} (h : FoAt w B fb pb cap S F M) (hb : Below w.heap.size w w1) : FoAt w1 B fb pb cap S F M := by
 have hf : w1.heap[fb]? = w.heap[fb]? := hb.block fb h.lt;have hg : w.grownBy w1 none := grown_below none hb;refine ⟨(World.cell?_of_block (w := w) (a := ⟨fb,0,none⟩) hf).trans h.c0,(World.cell?_of_block (w := w) (a := ⟨fb,1,none⟩) hf).trans h.c1,(World.cell?_of_block (w := w) (a := ⟨fb,2,none⟩) hf).trans h.c2,(World.frozen?_of_block (w := w) (a := ⟨fb,2,none⟩) hf).trans h.fz,Nat.lt_of_lt_of_le h.lt hb.size,h.ne,h.fbo,?_,?_,h.apart,h.pairs⟩
 ·exact ownsKeep h.row hg (fun g hb e => by cases e)
 ·exact fun t ht => ownsKeep (h.parts t ht) hg (fun g hb e => by cases e)
theorem penter_leafB (B fb pb cap : Nat) (S : List Stp) (s : Stp) (M : Value) (w : World) (fn : FuncId) (caps : Array Value) (h : FoAt w B fb pb cap (S ++ [s]) (.func (.func fn) #[] caps) M) (hS : S.length <= 1099511627776) (hps : s.ps.length <= 1099511627776)
  (q : Nat) (k : Int) (z4 : W4) (lo hi : Int) (z : Bool) (lp : Option Addr) (lc : Nat) (a b : Nat) (hq : w.heap[q]? = some (ndOb k z4 lo hi z (.slice lp 0 lc) a b)) (x : Int)
  (hcf : ∀ args W,(callFunc fn args).run Tryz.prog W = .ok (.enter fn args) W)
  (hn : Calls Tryz.prog fn (#[ndPtr q,.slice none 0 0] ++ caps) w fun e w' => e = .returned (.int .i64 x) /\ Below w.heap.size w w') :
  Calls Tryz.prog 146 #[.pointer (some ⟨fb,0,none⟩),.pointer (some ⟨q,0,none⟩)] w fun e w' => e = .returned (.bool true) /\ ∃ v4,FoAt w' B fb pb cap (S ++ [⟨s.q,s.ps ++ [x],v4⟩]) (.func (.func fn) #[] caps) M /\ Below B w w' := by
 have hB : B <= w.heap.size := by have := h.pb_lt;omega
 have FT := qhid (fun w1 (hb : Below w.heap.size w w1) => ftell_any B fb pb cap S s _ M x w1 (h.below hb) hS hps);have CN := qhid hn;have c0 := h.c0;have n5 := jC hq 8;simp only [List.getElem?_toArray,List.getElem?_cons_zero,List.getElem?_cons_succ] at n5;clear h hn hq
 go_enter Tryz.func146,Tryz.ntmps146
 go_wp2_with fail
 refine CN.out.mono ?_;rintro e w1 ⟨rfl,hw⟩;have FT1 := qhid (FT.out w1 hw);have HB1 := qhid (hw.mono hB);clear CN FT hw c0 n5 hB
 go_wp2_with fail
 refine FT1.out.mono ?_;rintro e w2 ⟨rfl,v4,hw,hb⟩;have HW := qhid hw;have HB2 := qhid hb;clear hw hb FT1
 go_wp2_with fail
 exact bodyPost_ret (v := .bool true) (by simp [results,Tryz.results146,go_sem]) rfl ⟨rfl,v4,HW.out,HB1.out.trans HB2.out⟩
def prts : Tr -> List Tr
 | .mk _ _ _ _ _ _ _ l => l
theorem foldR_eq (num : Tr -> List Int -> Int) (u : Tr) : foldR num u = num u ((prts u).map (foldR num)) := by
 cases u with
 | mk k s lo hi z a b l => rw [foldR,foldL_map];rfl
theorem trSize_eq (u : Tr) : trSize u = 1 + trSizes (prts u) := by
 cases u with
 | mk k s lo hi z a b l => rw [trSize];rfl
theorem trSize_pos (u : Tr) : 1 <= trSize u := by rw [trSize_eq];omega
theorem trSize_part {u c : Tr} {i : Nat} (h : (prts u)[i]? = some c) : trSize c < trSize u := by
 have := trSize_mem (List.mem_of_getElem? h);rw [trSize_eq u];omega
theorem trSizes_len (l : List Tr) : l.length <= trSizes l := by
 induction l with
 | nil => simp
 | cons t l ih => rw [trSizes];have := trSize_pos t;simp;omega
theorem trSizes_drop {l : List Tr} {k : Nat} {c : Tr} (h : l[k]? = some c) : trSizes (l.drop k) = trSize c + trSizes (l.drop (k + 1)) := by
 have hlt := (List.getElem?_eq_some_iff.1 h).1;rw [List.drop_eq_getElem_cons hlt,trSizes];rw [List.getElem?_eq_getElem hlt] at h;rw [Option.some.inj h]
theorem NdAt.prt {w : World} {A : Nat -> Prop} {u : Tr} {q : Nat} (h : NdAt w A u (ndPtr q)) :
  A q /\ ∃ k s lo hi z p cap a b,w.heap[q]? = some (ndOb k s lo hi z (.slice p (prts u).length cap) a b) /\ ∀ (i : Nat) (t : Tr),(prts u)[i]? = some t -> ∃ c c',p = some ⟨c,0,none⟩ /\ c < w.heap.size /\ w.cell? ⟨c,i,none⟩ = some (ndPtr c') /\ NdAt w A t (ndPtr c') := by
 cases u with
 | mk k s lo hi z a b l =>
  obtain ⟨q',p,cap,e,hq,hb,hk⟩ := h.head;injection e with e;injection e with e;injection e with e;subst e;refine ⟨hq,k,s,lo,hi,z,p,cap,a,b,hb,fun i t hi => ?_⟩;obtain ⟨c,v,h1,h2,h3,h4⟩ := hk i t hi;obtain ⟨c',rfl⟩ := h4.pointer;exact ⟨c,c',h1,h2,h3,h4⟩
theorem NdAt.same {w w' : World} {A : Nat -> Prop} {t : Tr} {v : Value} (h : NdAt w A t v) (hA : ∀ b,A b -> w'.heap[b]? = w.heap[b]?) (hs : w.heap.size <= w'.heap.size) : NdAt w' A t v := by
 induction h with
 | node k s lo hi z a b l q p cap us hq hb hc ht ih =>
  refine .node k s lo hi z a b l q p cap us hq ((hA q hq).trans hb) (fun i t hi => ?_) (fun i t hi => ih i t hi);obtain ⟨c,h1,h2,h3,h4⟩ := hc i t hi;exact ⟨c,h1,h2,Nat.lt_of_lt_of_le h3 hs,(World.cell?_of_block (w := w) (a := ⟨c,i,none⟩) (hA c h2)).trans h4⟩
abbrev Pth := List (Stp × Tr)
structure FrOK (w : World) (A : Nat -> Prop) (num : Tr -> List Int -> Int) (s : Stp) (u : Tr) : Prop where
 nd : NdAt w A u (ndPtr s.q)
 ps : s.ps = ((prts u).take s.ps.length).map (foldR num)
 le : s.ps.length <= (prts u).length
 ne : 1 <= (prts u).length
def ChOK (w : World) (A : Nat -> Prop) (num : Tr -> List Int -> Int) (D0 : Tr) : Pth -> Prop
 | [] => False
 | [x] => FrOK w A num x.1 x.2 /\ x.2 = D0
 | x :: y :: r => FrOK w A num x.1 x.2 /\ (prts y.2)[y.1.ps.length]? = some x.2 /\ ChOK w A num D0 (y :: r)
theorem ChOK.top {w : World} {A : Nat -> Prop} {num : Tr -> List Int -> Int} {D0 : Tr} {x : Stp × Tr} {r : Pth} (h : ChOK w A num D0 (x :: r)) : FrOK w A num x.1 x.2 := by
 cases r with
 | nil => exact h.1
 | cons y r => exact h.1
theorem ChOK.mem {w : World} {A : Nat -> Prop} {num : Tr -> List Int -> Int} {D0 : Tr} : ∀ {P : Pth},ChOK w A num D0 P -> ∀ x ∈ P,FrOK w A num x.1 x.2
 | [],h,_,_ => h.elim
 | [y],h,x,hx => by
  obtain rfl : x = y := by simpa using hx
  exact h.1
 | y :: z :: r,h,x,hx => by
  rcases List.mem_cons.1 hx with rfl | hx
  ·exact h.1
  ·exact ChOK.mem h.2.2 x hx
theorem ChOK.size {w : World} {A : Nat -> Prop} {num : Tr -> List Int -> Int} {D0 : Tr} : ∀ {P : Pth} {x : Stp × Tr},ChOK w A num D0 (x :: P) -> (∀ y ∈ x :: P,trSize x.2 <= trSize y.2) /\ trSize x.2 + P.length <= trSize D0
 | [],x,h => by
  refine ⟨fun y hy => ?_,by rw [h.2];simp⟩;obtain rfl : y = x := by simpa using hy
  exact jN _
 | z :: r,x,h => by
  obtain ⟨h1,h2⟩ := ChOK.size h.2.2;have h3 := trSize_part h.2.1;refine ⟨fun y hy => ?_,by simp;omega⟩
  rcases List.mem_cons.1 hy with rfl | hy
  ·exact jN _
  ·have := h1 y hy;omega
theorem FrOK.same {w w' : World} {A : Nat -> Prop} {num : Tr -> List Int -> Int} {s : Stp} {u : Tr} (h : FrOK w A num s u) (hA : ∀ b,A b -> w'.heap[b]? = w.heap[b]?) (hs : w.heap.size <= w'.heap.size) : FrOK w' A num s u :=
 ⟨h.nd.same hA hs,h.ps,h.le,h.ne⟩
theorem ChOK.same {w w' : World} {A : Nat -> Prop} {num : Tr -> List Int -> Int} {D0 : Tr} (hA : ∀ b,A b -> w'.heap[b]? = w.heap[b]?) (hs : w.heap.size <= w'.heap.size) : ∀ {P : Pth},ChOK w A num D0 P -> ChOK w' A num D0 P
 | [],h => h
 | [_],h => ⟨h.1.same hA hs,h.2⟩
 | _ :: _ :: _,h => ⟨h.1.same hA hs,h.2.1,ChOK.same hA hs h.2.2⟩
theorem FrOK.told {w : World} {A : Nat -> Prop} {num : Tr -> List Int -> Int} {s : Stp} {u c : Tr} (h : FrOK w A num s u) (hc : (prts u)[s.ps.length]? = some c) (v4 : Value) : FrOK w A num ⟨s.q,s.ps ++ [foldR num c],v4⟩ u := by
 have hlt := (List.getElem?_eq_some_iff.1 hc).1;refine ⟨h.nd,?_,by simp;omega,h.ne⟩
 show s.ps ++ [foldR num c] = ((prts u).take (s.ps ++ [foldR num c]).length).map (foldR num)
 rw [List.length_append,List.length_singleton,List.take_add_one,hc,List.map_append,<- h.ps];rfl
theorem ChOK.told {w : World} {A : Nat -> Prop} {num : Tr -> List Int -> Int} {D0 : Tr} {s : Stp} {u c : Tr} {r : Pth} (h : ChOK w A num D0 ((s,u) :: r)) (hc : (prts u)[s.ps.length]? = some c) (v4 : Value) : ChOK w A num D0 ((⟨s.q,s.ps ++ [foldR num c],v4⟩,u) :: r) := by
 cases r with
 | nil => exact ⟨FrOK.told h.1 hc v4,h.2⟩
 | cons y r => exact ⟨FrOK.told h.1 hc v4,h.2.1,h.2.2⟩
theorem ChOK.push {w : World} {A : Nat -> Prop} {num : Tr -> List Int -> Int} {D0 : Tr} {s : Stp} {u c : Tr} {r : Pth} {q : Nat} {v : Value} (h : ChOK w A num D0 ((s,u) :: r)) (hc : (prts u)[s.ps.length]? = some c) (hn : NdAt w A c (ndPtr q)) (hp : 1 <= (prts c).length) : ChOK w A num D0 ((⟨q,[],v⟩,c) :: (s,u) :: r) :=
 ⟨⟨hn,by simp,by simp,hp⟩,hc,h⟩
theorem FrOK.full {w : World} {A : Nat -> Prop} {num : Tr -> List Int -> Int} {s : Stp} {u : Tr} (h : FrOK w A num s u) (hf : ¬ s.ps.length < (prts u).length) : s.ps = (prts u).map (foldR num) := by
 have := h.le;have h1 := h.ps;rw [List.take_of_length_le (by omega)] at h1;exact h1
theorem ChOK.leave {w : World} {A : Nat -> Prop} {num : Tr -> List Int -> Int} {D0 : Tr} {s s0 : Stp} {u u0 : Tr} {r : Pth} (h : ChOK w A num D0 ((s,u) :: (s0,u0) :: r)) (v4 : Value) : ChOK w A num D0 ((⟨s0.q,s0.ps ++ [foldR num u],v4⟩,u0) :: r) :=
 ChOK.told h.2.2 h.2.1 v4
def mRest : Pth -> Nat
 | [] => 0
 | x :: r => 1 + 2 * trSizes ((prts x.2).drop (x.1.ps.length + 1)) + mRest r
def mOf : Pth -> Nat
 | [] => 0
 | x :: r => 1 + 2 * trSizes ((prts x.2).drop x.1.ps.length) + mRest r
theorem mOf_told {s : Stp} {u c : Tr} {r : Pth} (hc : (prts u)[s.ps.length]? = some c) (y : Int) (v4 : Value) : mOf ((⟨s.q,s.ps ++ [y],v4⟩,u) :: r) < mOf ((s,u) :: r) := by
 simp only [mOf,List.length_append,List.length_singleton];rw [trSizes_drop hc];have := trSize_pos c;omega
theorem mOf_push {s : Stp} {u c : Tr} {r : Pth} (hc : (prts u)[s.ps.length]? = some c) (q : Nat) (v : Value) : mOf ((⟨q,[],v⟩,c) :: (s,u) :: r) < mOf ((s,u) :: r) := by
 simp only [mOf,mRest,List.length_nil,List.drop_zero];rw [trSizes_drop hc,trSize_eq c];omega
theorem mOf_leave {s s0 : Stp} {u u0 : Tr} {r : Pth} (y : Int) (v4 : Value) : mOf ((⟨s0.q,s0.ps ++ [y],v4⟩,u0) :: r) < mOf ((s,u) :: (s0,u0) :: r) := by
 simp only [mOf,mRest,List.length_append,List.length_singleton];omega
structure MapOK (w : World) (A : Nat -> Prop) (num : Tr -> List Int -> Int) (P : Pth) (D : List (Nat × Int)) : Prop where
 keys : ∀ p ∈ D,A p.1 /\ IsC w p.1
 val : ∀ q y,gotD D q = (y,true) -> (y = -1 /\ ∃ x ∈ P,x.1.q = q) \/ ∃ u,NdAt w A u (ndPtr q) /\ y = foldR num u
theorem mem_putD {D : List (Nat × Int)} {q : Nat} {v : Int} : ∀ p ∈ putD D q v,p ∈ D \/ p.1 = q := by
 induction D with
 | nil =>
  intro p hp;have e : p = (q,v) := by simpa [putD] using hp
  exact .inr (by rw [e])
 | cons x D ih =>
  intro p hp;rw [putD] at hp
  by_cases h : q = x.1
  ·rw [if_pos h] at hp
   rcases List.mem_cons.1 hp with rfl | hp
   ·exact .inr rfl
   ·exact .inl (List.mem_cons_of_mem _ hp)
  ·rw [if_neg h] at hp
   rcases List.mem_cons.1 hp with rfl | hp
   ·exact .inl (List.mem_cons_self ..)
   ·rcases ih p hp with h2 | h2
    ·exact .inl (List.mem_cons_of_mem _ h2)
    ·exact .inr h2
theorem gotD_false {D : List (Nat × Int)} {q : Nat} {y : Int} (h : gotD D q = (y,false)) : y = 0 := by
 induction D with
 | nil => rw [gotD] at h;injection h with h;exact h.symm
 | cons p D ih =>
  rw [gotD] at h
  split at h
  ·injection h with _ h;cases h
  ·exact ih h
theorem MapOK.same {w w' : World} {A : Nat -> Prop} {num : Tr -> List Int -> Int} {P : Pth} {D : List (Nat × Int)} (h : MapOK w A num P D) (hA : ∀ b,A b -> w'.heap[b]? = w.heap[b]?) (hs : w.heap.size <= w'.heap.size) : MapOK w' A num P D := by
 refine ⟨fun p hp => ?_,fun q y hq => ?_⟩
 ·obtain ⟨h1,c,t,h2⟩ := h.keys p hp;exact ⟨h1,c,t,(hA _ h1).trans h2⟩
 ·rcases h.val q y hq with h1 | ⟨u,h1,h2⟩
  ·exact .inl h1
  ·exact .inr ⟨u,h1.same hA hs,h2⟩
theorem MapOK.told {w : World} {A : Nat -> Prop} {num : Tr -> List Int -> Int} {s : Stp} {u : Tr} {r : Pth} {D : List (Nat × Int)} (h : MapOK w A num ((s,u) :: r) D) (ps : List Int) (v4 : Value) : MapOK w A num ((⟨s.q,ps,v4⟩,u) :: r) D := by
 refine ⟨h.keys,fun q y hq => ?_⟩
 rcases h.val q y hq with ⟨h1,x,hx,h2⟩ | h1
 ·refine .inl ⟨h1,?_⟩
  rcases List.mem_cons.1 hx with rfl | hx
  ·exact ⟨_,List.mem_cons_self ..,h2⟩
  ·exact ⟨x,List.mem_cons_of_mem _ hx,h2⟩
 ·exact .inr h1
theorem MapOK.push {w : World} {A : Nat -> Prop} {num : Tr -> List Int -> Int} {P : Pth} {D : List (Nat × Int)} {q : Nat} {v : Value} {c : Tr} (h : MapOK w A num P D) (hA : A q) (hq : IsC w q) : MapOK w A num ((⟨q,[],v⟩,c) :: P) (putD D q (-1)) := by
 refine ⟨fun p hp => ?_,fun q' y hy => ?_⟩
 ·rcases mem_putD p hp with h1 | h1
  ·exact h.keys p h1
  ·rw [h1];exact ⟨hA,hq⟩
 ·rw [gotD_put] at hy
  by_cases e : q' = q
  ·rw [if_pos e] at hy;injection hy with hy;exact .inl ⟨hy.symm,_,List.mem_cons_self ..,e.symm⟩
  ·rw [if_neg e] at hy
   rcases h.val q' y hy with ⟨h1,x,hx,h2⟩ | h1
   ·exact .inl ⟨h1,x,List.mem_cons_of_mem _ hx,h2⟩
   ·exact .inr h1
theorem MapOK.leave {w : World} {A : Nat -> Prop} {num : Tr -> List Int -> Int} {s s0 : Stp} {u u0 : Tr} {r : Pth} {D : List (Nat × Int)} (h : MapOK w A num ((s,u) :: (s0,u0) :: r) D) (hn : NdAt w A u (ndPtr s.q)) (hA : A s.q) (hq : IsC w s.q) (ps : List Int) (v4 : Value) :
  MapOK w A num ((⟨s0.q,ps,v4⟩,u0) :: r) (putD D s.q (foldR num u)) := by
 refine ⟨fun p hp => ?_,fun q' y hy => ?_⟩
 ·rcases mem_putD p hp with h1 | h1
  ·exact h.keys p h1
  ·rw [h1];exact ⟨hA,hq⟩
 ·rw [gotD_put] at hy
  by_cases e : q' = s.q
  ·rw [if_pos e] at hy;injection hy with hy;exact .inr ⟨u,by rw [e];exact hn,hy.symm⟩
  ·rw [if_neg e] at hy
   rcases h.val q' y hy with ⟨h1,x,hx,h2⟩ | h1
   ·refine .inl ⟨h1,?_⟩
    rcases List.mem_cons.1 hx with rfl | hx
    ·exact absurd h2.symm e
    ·rcases List.mem_cons.1 hx with rfl | hx
     ·exact ⟨_,List.mem_cons_self ..,h2⟩
     ·exact ⟨x,List.mem_cons_of_mem _ hx,h2⟩
   ·exact .inr h1
theorem MapOK.part {w : World} {A : Nat -> Prop} {num : Tr -> List Int -> Int} {D0 : Tr} {s : Stp} {u c : Tr} {r : Pth} {D : List (Nat × Int)} {q : Nat} {y : Int} (h : MapOK w A num ((s,u) :: r) D) (hC : ChOK w A num D0 ((s,u) :: r)) (hc : (prts u)[s.ps.length]? = some c) (hn : NdAt w A c (ndPtr q)) (hg : gotD D q = (y,true)) : y = foldR num c := by
 rcases h.val q y hg with ⟨_,x,hx,h2⟩ | ⟨u',h1,h2⟩
 ·exfalso;have h3 := (ChOK.mem hC x hx).nd;rw [h2] at h3;have h4 := hn.uniq h3;have h5 := (ChOK.size hC).1 x hx;have h6 := trSize_part hc;rw [<- h4] at h5;have h5 : trSize u <= trSize c := h5;omega
 ·rw [hn.uniq h1,h2]
theorem least_ex (p : Nat -> Prop) (h : ∃ n,p n) : ∃ n,p n /\ ∀ m,p m -> n <= m := by
 obtain ⟨n,hn⟩ := h
 induction n using Nat.strongRecOn with
 | ind n ih =>
  by_cases hm : ∃ m,m < n /\ p m
  ·obtain ⟨m,h1,h2⟩ := hm;exact ih m h1 h2
  ·exact ⟨n,hn,fun m hpm => Nat.le_of_not_lt fun hlt => hm ⟨m,hlt,hpm⟩⟩
open Classical in
noncomputable def leastN (p : Nat -> Prop) : Nat := if h : ∃ n,p n then (least_ex p h).choose else 0
theorem leastN_spec {p : Nat -> Prop} (h : ∃ n,p n) : p (leastN p) /\ ∀ m,p m -> leastN p <= m := by
 unfold leastN;rw [dif_pos h];exact (least_ex p h).choose_spec
def NumC (fn : FuncId) (caps : Array Value) (num : Tr -> List Int -> Int) (w0 : World) (N : Nat) : Prop :=
 ∀ (A : Nat -> Prop) (X : World) (u : Tr) (q : Nat) (pv : Value),Below w0.heap.size w0 X -> NdAt X A u (ndPtr q) -> trSize u <= N -> NumsAt X pv ((prts u).map (foldR num)) ->
  Calls Tryz.prog fn (#[ndPtr q,pv] ++ caps) X fun e w' => e = .returned (.int .i64 (foldR num u)) /\ Below X.heap.size X w'
abbrev FoA (B mb : Nat) : Nat -> Prop := fun b => b < B /\ b ≠ mb
structure FInv (w0 W : World) (B fb mb : Nat) (num : Tr -> List Int -> Int) (D0 : Tr) (F : Value) (P : Pth) : Prop where
 ex : ∃ D pb cap,FoAt W B fb pb cap (P.reverse.map Prod.fst) F (.map (some mb)) /\ PtrMap W mb D /\ MapOK W (FoA B mb) num P D
 ch : ChOK W (FoA B mb) num D0 P
 bel : Below w0.heap.size w0 W
theorem nums_nil (w : World) : NumsAt w (.slice none 0 0) [] := ⟨none,0,rfl,fun i x h => by simp at h⟩
theorem nums_own {w : World} {B : Nat} {v : Value} {ps : List Int} (h : w.ownsRow B 3 1 v ps.length (ps.map (Value.int .i64))) : NumsAt w v ps := by
 have hc : ∀ g,v.ownBlock = some g -> ∀ j u,(ps.map (Value.int .i64))[j]? = some u -> w.cell? ((⟨g,0,none⟩ : Addr).add j) = some u := fun g hg => h.cells (g := g) hg
 have hl : ∀ g,v.ownBlock = some g -> g < w.heap.size := fun g hg => (ownsLt h hg).2
 rcases h.2 with ⟨rfl,h0⟩ | ⟨g,cap,cur,rfl,_⟩
 ·have e : ps = [] := List.length_eq_zero_iff.1 h0;subst e;exact nums_nil w
 ·refine ⟨_,cap,rfl,fun i x hx => ⟨g,rfl,hl g rfl,?_⟩⟩;have := hc g rfl i (.int .i64 x) (by rw [List.getElem?_map,hx];rfl);have ha : ∀ j,(⟨g,0,none⟩ : Addr).add j = ⟨g,j,none⟩ := fun j => by unfold Addr.add;split <;> simp_all
  rw [ha] at this;exact this
theorem NumsAt.below {w w1 : World} {v : Value} {ps : List Int} (h : NumsAt w v ps) (hb : Below w.heap.size w w1) : NumsAt w1 v ps := by
 obtain ⟨p,cap,rfl,hc⟩ := h;refine ⟨p,cap,rfl,fun i x hx => ?_⟩;obtain ⟨c,h1,h2,h3⟩ := hc i x hx;exact ⟨c,h1,Nat.lt_of_lt_of_le h2 hb.size,(World.cell?_of_block (w := w) (a := ⟨c,i,none⟩) (hb.block c h2)).trans h3⟩
theorem FoKeep.same {B fb mb : Nat} {w w' : World} (h : FoKeep B fb mb w w') (hB : B <= fb) : ∀ b,FoA B mb b -> w'.heap[b]? = w.heap[b]? := fun b hb => h.block b hb.1 (by have := hb.1;omega) hb.2
theorem FoKeep.bel {B fb mb : Nat} {w0 w w' : World} (h : FoKeep B fb mb w w') (hb : Below w0.heap.size w0 w) (hB : B <= fb) (hm : w0.heap.size <= mb) (hmB : mb < B) : Below w0.heap.size w0 w' :=
 ⟨h.os.trans hb.os,h.tape.trans hb.tape,h.output.trans hb.output,Nat.le_trans hb.size h.size,fun k hk => (h.block k (by omega) (by omega) (by omega)).trans (hb.block k hk)⟩
theorem pth_last (x : Stp × Tr) (r : Pth) : (x :: r).reverse.map Prod.fst = r.reverse.map Prod.fst ++ [x.1] := by simp
theorem FInv.told {w0 W W' : World} {B fb mb : Nat} {num : Tr -> List Int -> Int} {D0 : Tr} {F : Value} {s : Stp} {u c : Tr} {r : Pth} {D : List (Nat × Int)} {pb cap : Nat} {v4 : Value} (hB : B <= fb) (hm : w0.heap.size <= mb) (hmB : mb < B)
  (hbel : Below w0.heap.size w0 W) (hch : ChOK W (FoA B mb) num D0 ((s,u) :: r)) (hM : PtrMap W mb D) (hV : MapOK W (FoA B mb) num ((s,u) :: r) D) (hc : (prts u)[s.ps.length]? = some c) (hF : FoAt W' B fb pb cap (r.reverse.map Prod.fst ++ [⟨s.q,s.ps ++ [foldR num c],v4⟩]) F (.map (some mb))) (hK : Below B W W') :
  ∃ P',FInv w0 W' B fb mb num D0 F P' /\ mOf P' < mOf ((s,u) :: r) := by
 have hk : FoKeep B fb mb W W' := .below hK;refine ⟨(⟨s.q,s.ps ++ [foldR num c],v4⟩,u) :: r,⟨⟨D,pb,cap,by rw [pth_last];exact hF,?_,?_⟩,?_,hk.bel hbel hB hm hmB⟩,mOf_told hc _ _⟩
 ·obtain ⟨es,cl,h1,h2⟩ := hM;exact ⟨es,cl,(hK.block mb hmB).trans h1,h2⟩
 ·exact (hV.told _ _).same (hk.same hB) hk.size
 ·exact ChOK.same (hk.same hB) hk.size (hch.told hc v4)
theorem fenter_any {w0 W : World} {B fb mb N : Nat} {num : Tr -> List Int -> Int} {D0 : Tr} {fn : FuncId} {caps : Array Value} {s : Stp} {u c : Tr} {r : Pth} {q : Nat} (hcf : ∀ args W,(callFunc fn args).run Tryz.prog W = .ok (.enter fn args) W)
  (hN : NumC fn caps num w0 N) (hpos : ∀ u,trSize u <= N -> foldR num u ≠ -1) (hD0 : trSize D0 <= N + 1) (hN2 : N <= 1099511627000) (hB : B <= fb) (hm : w0.heap.size <= mb) (hmB : mb < B)
  (h : FInv w0 W B fb mb num D0 (.func (.func fn) #[] caps) ((s,u) :: r)) (hc : (prts u)[s.ps.length]? = some c) (hq : NdAt W (FoA B mb) c (ndPtr q)) :
  Calls Tryz.prog 146 #[.pointer (some ⟨fb,0,none⟩),.pointer (some ⟨q,0,none⟩)] W fun e w' => e = .returned (.bool true) /\ ∃ P',FInv w0 w' B fb mb num D0 (.func (.func fn) #[] caps) P' /\ mOf P' < mOf ((s,u) :: r) := by
 obtain ⟨⟨D,pb,cap,hF,hM,hV⟩,hch,hbel⟩ := h;rw [pth_last] at hF;have hmf : mb ≠ fb := by omega
 have hsz := hch.size.2;have hcu := trSize_part hc;have hcN : trSize c <= N := by have : trSize u + r.length <= trSize D0 := hsz;omega
 have hlen : (r.reverse.map Prod.fst).length <= 1099511627776 := by have : trSize u + r.length <= trSize D0 := hsz;simp;omega
 have hpl : s.ps.length <= 1099511627776 := by
  have h1 := hch.top.le;have h2 := trSizes_len (prts u);have h3 := trSize_eq u;have : trSize u + r.length <= trSize D0 := hsz;have h1 : s.ps.length <= (prts u).length := h1;omega
 obtain ⟨hAq,k,s4,lo,hi,z,p,lc,a,b,hb,hk⟩ := hq.prt
 by_cases h0 : (prts c).length = 0
 ·have hp0 : prts c = [] := List.length_eq_zero_iff.1 h0;rw [h0] at hb;have hn := hN (FoA B mb) W c q (.slice none 0 0) hbel hq hcN (by rw [hp0];exact nums_nil W);refine (penter_leafB B fb pb cap _ s _ W fn caps hF hlen hpl q k s4 lo hi z p lc a b hb (foldR num c) hcf hn).mono ?_;rintro e w' ⟨rfl,v4,h4,hb4⟩;exact ⟨rfl,FInv.told hB hm hmB hbel hch hM hV hc h4 hb4⟩
 ·obtain ⟨n,hn⟩ : ∃ n,(prts c).length = n + 1 := ⟨(prts c).length - 1,by omega⟩;rw [hn] at hb;have hD : ∀ p ∈ D,IsC W p.1 := fun p hp => (hV.keys p hp).2
  cases hg : gotD D q with
  | mk y met =>
   cases met with
   | true =>
    have hy : y = foldR num c := hV.part hch hc hq hg;refine (penter_known B fb pb cap mb _ s _ W hF hlen hpl q k s4 lo hi z p n lc a b hb D hM hD y hg (by rw [hy];exact hpos c hcN)).mono ?_;rintro e w' ⟨rfl,v4,h4,hb4⟩;rw [hy] at h4;exact ⟨rfl,FInv.told hB hm hmB hbel hch hM hV hc h4 hb4⟩
   | false =>
    obtain rfl : y = 0 := gotD_false hg;refine (penter_new B fb pb cap mb _ _ W hF (by have : trSize u + r.length <= trSize D0 := hsz;simp;omega) hmf hmB q k s4 lo hi z p n lc a b hb D hM hD hg).mono ?_;rintro e w' ⟨rfl,⟨pb',cap',h4⟩,hM4,hk4⟩;refine ⟨rfl,(⟨q,[],.slice none 0 0⟩,c) :: (s,u) :: r,⟨⟨_,pb',cap',?_,hM4,?_⟩,?_,hk4.bel hbel hB hm hmB⟩,mOf_push hc _ _⟩
    ·rw [pth_last,pth_last];exact h4
    ·exact (hV.push hAq ⟨_,_,hb⟩).same (hk4.same hB) hk4.size
    ·exact ChOK.same (hk4.same hB) hk4.size (hch.push hc hq (by omega))
theorem fleave_any {w0 W : World} {B fb mb N : Nat} {num : Tr -> List Int -> Int} {D0 : Tr} {fn : FuncId} {caps : Array Value} {s s0 : Stp} {u u0 : Tr} {r : Pth} (hcf : ∀ args W,(callFunc fn args).run Tryz.prog W = .ok (.enter fn args) W)
  (hN : NumC fn caps num w0 N) (hD0 : trSize D0 <= N + 1) (hN2 : N <= 1099511627000) (hB : B <= fb) (hm : w0.heap.size <= mb) (hmB : mb < B)
  (h : FInv w0 W B fb mb num D0 (.func (.func fn) #[] caps) ((s,u) :: (s0,u0) :: r)) (hf : ¬ s.ps.length < (prts u).length) :
  Calls Tryz.prog 147 #[.pointer (some ⟨fb,0,none⟩)] W fun e w' => e = .returned (.tuple #[]) /\ ∃ P',FInv w0 w' B fb mb num D0 (.func (.func fn) #[] caps) P' /\ mOf P' < mOf ((s,u) :: (s0,u0) :: r) := by
 obtain ⟨⟨D,pb,cap,hF,hM,hV⟩,hch,hbel⟩ := h;rw [pth_last,pth_last] at hF;have hmf : mb ≠ fb := by omega
 have hsz := hch.size.2;have hsz : trSize u + ((s0,u0) :: r).length <= trSize D0 := hsz;rw [List.length_cons] at hsz;have hu : trSize u <= N := by omega
 have hpl : s0.ps.length <= 1099511627776 := by
  have h1 : FrOK W (FoA B mb) num s0 u0 := ChOK.mem hch (s0,u0) (by simp);have h2 := trSizes_len (prts u0);have h3 := trSize_eq u0;have h4 := (ChOK.size hch.2.2).2;have h4 : trSize u0 + r.length <= trSize D0 := h4;have := h1.le;omega
 have ht := hch.top;have ht : FrOK W (FoA B mb) num s u := ht;have hps := ht.full hf;obtain ⟨hAq,k,s4,lo,hi,z,p,lc,a,b,hb,hk⟩ := ht.nd.prt;have hown := hF.parts s (by simp);have hnum := nums_own hown;rw [hps] at hnum;obtain ⟨sq,sps,sv⟩ := s;have hD : ∀ p ∈ D,IsC W p.1 := fun p hp => (hV.keys p hp).2
 have hn : ∀ X,Below W.heap.size W X -> Calls Tryz.prog fn (#[ndPtr sq,sv] ++ caps) X fun e w' => e = .returned (.int .i64 (foldR num u)) /\ Below X.heap.size X w' := fun X hX =>
  hN (FoA B mb) X u sq sv (hbel.trans (hX.mono hbel.size)) (ht.nd.up hX) hu (hnum.below hX)
 refine (pleave_any B fb pb cap mb (r.reverse.length + 1) sq (r.reverse.map Prod.fst) s0 sps sv W fn caps hF (by simp) (by simp;omega) hpl hmf hmB D hM hD ⟨_,_,hb⟩ (foldR num u) hcf hn).mono ?_;rintro e w' ⟨rfl,⟨v4,h4⟩,hM4,hk4⟩;refine ⟨rfl,(⟨s0.q,s0.ps ++ [foldR num u],v4⟩,u0) :: r,⟨⟨_,pb,cap,by rw [pth_last];exact h4,hM4,?_⟩,?_,hk4.bel hbel hB hm hmB⟩,mOf_leave _ _⟩
 ·exact (hV.leave (s0 := s0) (u0 := u0) (r := r) ht.nd hAq ⟨_,_,hb⟩ _ v4).same (hk4.same hB) hk4.size
 ·exact ChOK.same (hk4.same hB) hk4.size (hch.leave v4)
end
end Go.Proofs.YtnmalggmbeipaaaGreatDoor
