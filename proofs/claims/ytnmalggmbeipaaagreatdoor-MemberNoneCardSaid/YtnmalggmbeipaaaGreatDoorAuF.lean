/- A part of the proof. -/
import Derived.Test.YtnmalggmbeipaaaGreatDoorAuC
import Derived.Lib.MinMax
set_option maxRecDepth 100000
set_option maxHeartbeats 16000000
namespace Go.Proofs.YtnmalggmbeipaaaGreatDoor
section
section
open Go Go.RowKit
attribute [local go_sem ↓] Go.wp_at_zero Go.wp_at_succ
attribute [local go_sem] eq4
def AuNe (t : TypeId) : Prop := 292 ≠ t /\ 126 ≠ t /\ 29 ≠ t /\ 129 ≠ t /\ 199 ≠ t /\ 194 ≠ t
theorem auNe_int : AuNe 3 := by unfold AuNe;decide
def OfT (w : World) (r : Option Nat) (t : TypeId) : Prop := ∀ b,r = some b -> ∃ cs fr,w.heap[b]? = some (.cells cs t fr)
theorem VecI.of {w : World} {g n : Nat} {f : Wts} (h : VecI w g n f) : OfT w (some g) 3 := fun b e => by rw [<- Option.some.inj e];exact ⟨_,_,h⟩
theorem row_t {w w' : World} {B sz n : Nat} {e t : TypeId} {r : Option Nat} {v : Value} {xs : List Value} (h : w.ownsRow B e sz v n xs) (hne : e ≠ t) (hg : w.grownBy w' r) (hv : OfT w r t) : w'.ownsRow B e sz v n xs :=
 ownsKeep h hg (fun b e1 e2 => by
  obtain ⟨c,hc⟩ := owns_cells h e1;obtain ⟨cs,fr,h2⟩ := hv b e2;rw [h2] at hc;injection hc with hc;injection hc with _ hc
  exact hne hc.symm)
theorem block_t {w w' : World} {b : Nat} {o : Array Value} {e t : TypeId} {f2 : Nat × Nat} {r : Option Nat} (h : w.heap[b]? = some (.cells o e f2)) (hne : e ≠ t) (hg : w.grownBy w' r) (hv : OfT w r t) : w'.heap[b]? = some (.cells o e f2) :=
 (hg.block b (jS h) (fun e2 => by
  obtain ⟨cs,fr,h2⟩ := hv b e2.symm;rw [h2] at h;injection h with h;injection h with _ h
  exact hne h.symm)).trans h
section
variable {w w' : World} {r : Option Nat} {t : TypeId}
theorem ArAt.kt {v : Value} {l : List (Nat × Int)} (h : ArAt w v l) (hn : AuNe t) (hg : w.grownBy w' r) (hv : OfT w r t) : ArAt w' v l := by
 obtain ⟨B,h⟩ := h;exact ⟨B,row_t h hn.1 hg hv⟩
theorem WgAt.kt {wb : Nat} {c : Co} (h : WgAt w wb c) (hn : AuNe t) (hg : w.grownBy w' r) (hv : OfT w r t) : WgAt w' wb c := by
 obtain ⟨⟨mf,ml,sp,fp,sc,fc,fs,h1,h2,h3,⟨B,h4⟩,⟨B',h5⟩,h6⟩,h7⟩ := h;have hk : KW w w' := KW.cells hg (fun b e => by obtain ⟨cs,fr,h⟩ := hv b e;exact ⟨_,_,_,h⟩);exact ⟨⟨mf,ml,sp,fp,sc,fc,fs,block_t h1 hn.2.2.2.2.1 hg hv,hk _ _ h2,hk _ _ h3,⟨B,row_t h4 hn.2.2.1 hg hv⟩,⟨B',row_t h5 hn.2.2.2.2.2 hg hv⟩,h6.up hk⟩,h7⟩
theorem AuAt.kt {ab : Nat} {c : Co} (h : AuAt w ab c) (hn : AuNe t) (hg : w.grownBy w' r) (hv : OfT w r t) : AuAt w' ab c := by
 obtain ⟨wb,sv,fv,nv,vs,h1,h2,⟨B,h3⟩,h4,⟨B',h5⟩,h6⟩ := h;exact ⟨wb,sv,fv,nv,vs,block_t h1 hn.2.2.2.1 hg hv,h2.kt hn hg hv,⟨B,row_t h3 hn.2.2.1 hg hv⟩,h4.kt hn hg hv,⟨B',row_t h5 hn.2.1 hg hv⟩,fun p v e => (h6 p v e).kt hn hg hv⟩
end
theorem arc_cells {w : World} {b : Nat} {x y : Int} (h : w.heap[b]? = some (.cells #[.int .i64 x,.int .i64 y] 292 (0,0))) : w.cell? ⟨b,0,none⟩ = some (.int .i64 x) /\ w.cell? ⟨b,1,none⟩ = some (.int .i64 y) :=
 ⟨(jC h 0).trans rfl,(jC h 1).trans rfl⟩
theorem unit_up : Reg.UpP (fun (_ : Nat) (_ : Value) (_ : World) => True) := fun _ _ _ _ _ _ => trivial
def TwoS (a b : Int) (v : Value) (X : World) : Prop := ∃ g,v = .slice (some ⟨g,0,none⟩) 2 2 /\ X.heap[g]? = some (.cells #[.int .i64 a,.int .i64 b] 3 (0,0))
theorem TwoS.up {a b : Int} {v : Value} {X Y : World} (h : TwoS a b v X) (hb : Below X.heap.size X Y) : TwoS a b v Y := by
 obtain ⟨g,e,h⟩ := h;exact ⟨g,e,Reg.heap_kept_up h hb⟩
theorem twoP_up {a b x y : Int} : Reg.UpP (fun (i : Nat) (v : Value) X => (i = 11 -> TwoS a b v X) /\ (i = 13 -> TwoS x y v X)) := fun _ _ _ _ hb h => ⟨fun e => (h.1 e).up hb,fun e => (h.2 e).up hb⟩
theorem auzero_any (w : World) (ab : Nat) (c : Co) (h : AuAt w ab c) : Calls Tryz.prog 118 #[.pointer (some ⟨ab,0,none⟩)] w fun e w' => ∃ g,e = .returned (.slice (some ⟨g,0,none⟩) (prtC c).places (prtC c).places) /\ g = w.heap.size /\ VecI w' g (prtC c).places noneW /\ Below w.heap.size w w' := by
 obtain ⟨wb,sv,fv,nv,vs,hme,hwg,⟨B,hs⟩,_⟩ := h;have hn6 := hwg.le;obtain ⟨sp,sc,rfl⟩ := owns_slice hs;rw [List.length_map,List.length_range] at hme;obtain ⟨c0,c1,c2,c3⟩ := au_cells hme;obtain ⟨n,hn⟩ : ∃ n,n = (prtC c).places := ⟨_,rfl⟩;rw [<- hn] at hn6 c1 ⊢;have hmk := mk_vlI n (by omega) w;clear hme hwg hs hn
 go_enter Tryz.func118,Tryz.ntmps118
 go_wp2_with fail
 exact bodyPost_ret (v := .slice (some ⟨w.heap.size,0,none⟩) n n) (by simp [results,Tryz.results118,go_sem]) rfl ⟨_,rfl,rfl,heap_new _ _,below1 _ _⟩
def ad3 (ab xb gs n sc q : Nat) (s : W4) (b : Int) (_ : Nat -> Value) : Nat -> Value
 | 0 => .pointer (some ⟨ab,0,none⟩)
 | 1 => .pointer (some ⟨ab,0,none⟩)
 | 2 => .pointer (some ⟨ab,1,none⟩)
 | 3 => .slice (some ⟨gs,0,none⟩) n sc
 | 4 => .pointer (some ⟨xb,0,none⟩)
 | 5 => .int .i64 (q : Int)
 | 6 => .pointer (some ⟨gs,q * 4,none⟩)
 | 7 => .agg #[.int .u64 s.a,.int .u64 s.b,.int .u64 s.c,.int .u64 s.d]
 | 8 => .int .u8 b
 | 9 => .bool (hasS s b)
 | _ => undef
def ad4 (g n gc xb q : Nat) (u : Wts) (r z : Int) (gh : Nat -> Value) : Nat -> Value
 | 0 => .slice (some ⟨g,0,none⟩) n gc
 | 1 => .pointer (some ⟨xb,0,none⟩)
 | 2 => .int .i64 (q : Int)
 | 3 => .slice (some ⟨g,0,none⟩) n gc
 | 4 => .pointer (some ⟨xb,0,none⟩)
 | 5 => .int .i64 (q : Int)
 | 6 => .pointer (some ⟨g,q,none⟩)
 | 7 => .int .i64 (u q)
 | 8 => .int .i64 r
 | 9 => .pointer (some ⟨xb,1,none⟩)
 | 10 => .int .i64 z
 | 11 => gh 11
 | 12 => .int .i64 (ti r z)
 | 13 => gh 13
 | 14 => .int .i64 (pl (u q) (ti r z))
 | 15 => .pointer (some ⟨g,q,none⟩)
 | 16 => undef
 | _ => undef
theorem ad4_11 {g n gc xb q : Nat} {u : Wts} {r z : Int} {gh : Nat -> Value} {gx} {j : Nat} (h11 : j ≠ 11) : ad4 g n gc xb q u r z (Reg.updP gh 11 gx) j = ad4 g n gc xb q u r z gh j := by
 unfold ad4
 split <;> first | rfl | exact absurd rfl ‹_› | (rw [Reg.updP_other _ _ (by decide)])
theorem ad4_13 {g n gc xb q : Nat} {u : Wts} {r z : Int} {gh : Nat -> Value} {gx} {j : Nat} (h13 : j ≠ 13) : ad4 g n gc xb q u r z (Reg.updP gh 13 gx) j = ad4 g n gc xb q u r z gh j := by
 unfold ad4
 split <;> first | rfl | exact absurd rfl ‹_› | (rw [Reg.updP_other _ _ (by decide)])
structure AdI (w : World) (g n : Nat) (u : Wts) (wr : World) : Prop where
 gr : w.grownBy wr (some g)
 vec : VecI wr g n u
theorem AdI.put {w wr Y : World} {g n q : Nat} {u : Wts} {v : Int} (h : AdI w g n u wr) (hY : Below wr.heap.size wr Y) : AdI w g n (updW u q v) (Y.setCell ⟨g,q,none⟩ (.int .i64 v)) := by
 refine ⟨(h.gr.trans (grown_below _ hY)).trans (set_only Y g q _),?_⟩;have h1 := Joins.block_setCell (i := q) (h.vec.up hY) (.int .i64 v);rw [vlI_set] at h1;exact h1
theorem AdI.below {w wr Y : World} {g n : Nat} {u : Wts} (h : AdI w g n u wr) (hY : Below wr.heap.size wr Y) : AdI w g n u Y := ⟨h.gr.trans (grown_below _ hY),h.vec.up hY⟩
theorem auadd_any (w : World) (ab g gc : Nat) (c : Co) (h : AuAt w ab c) (v : Wts) (hv : VecI w g (prtC c).places v) (hle : LeV v) (r : Int) (hr : 0 <= r /\ r <= top) (av : Value) (l : List (Nat × Int)) (hav : ArAt w av l) (hl : ∀ x ∈ l,x.1 < (prtC c).places /\ 0 <= x.2 /\ x.2 <= top) (hll : l.length <= 100000) (b : Int) (hb : 0 <= b /\ b <= 255) :
  Calls Tryz.prog 163 #[.pointer (some ⟨ab,0,none⟩),.slice (some ⟨g,0,none⟩) (prtC c).places gc,.int .i64 r,av,.int .u8 b] w fun e w' => e = .returned (.tuple #[]) /\ AdI w g (prtC c).places (addA (poS c) b r l v) w' := by
 obtain ⟨n,hn⟩ : ∃ n,n = (prtC c).places := ⟨_,rfl⟩;rw [<- hn] at hv hl ⊢;have HAU := qhid h;have HVC := qhid hv;have HLE := qhid hle;have HRB := qhid hr;have HLB := qhid hl;have HBB := qhid hb;have HAV := qhid hav;have HNP := qhid hn;have HLL := qhid hll;obtain ⟨ap,ac,rfl⟩ := owns_slice hav.choose_spec;obtain ⟨m,hm⟩ : ∃ m,m = l.length := ⟨_,rfl⟩;rw [<- hm] at HAV ⊢;have HML := qhid hm;have hmb : m <= 100000 := by omega
 clear h hv hle hr hl hb hav hn hll hm
 go_enter Tryz.func163,Tryz.ntmps163
 go_wp2_with fail
 go_loopw [14] (fun i wr => ∃ k : Nat,k <= m /\ i = .int .i64 (k : Int) /\ Hid (AdI w g n (addA (poS c) b r (l.take k) v) wr)) (fun i _ => m - (intOf i).toNat)
 case atStart => exact ⟨0,Nat.zero_le _,rfl,qhid ⟨grown_below _ (Below.refl _ _),HVC.out⟩⟩
 case round =>
  obtain ⟨k,hkm,rfl,HI⟩ := hrel
  by_cases hlt : k < m
  ·obtain ⟨⟨q,z⟩,hx⟩ : ∃ x,l[k]? = some x := ⟨l[k]'(by rw [<- HML.out];exact hlt),List.getElem?_eq_getElem _⟩;obtain ⟨hq,hz0,hz1⟩ := HLB.out (q,z) (List.mem_of_getElem? hx);have hq : q < n := hq;have hz0 : 0 <= z := hz0;have hz1 : z <= top := hz1;obtain ⟨u,hu⟩ : ∃ u,u = addA (poS c) b r (l.take k) v := ⟨_,rfl⟩;have HTK := qhid (addA_take (S := poS c) (b := b) (r := r) (v := v) hx);rw [<- hu] at HI HTK;have HUB : Hid (LeV u) := qhid (by rw [hu];exact HLE.out.add);have hvg := HVC.out;have hav := ArAt.kt HAV.out auNe_int HI.out.gr hvg.of;obtain ⟨ga,ca,hva,hgal,k0,k1⟩ := hav.read hx;have hap : ap = some ⟨ga,0,none⟩ := by injection hva
   subst hap;have hau := HAU.out.kt auNe_int HI.out.gr hvg.of;obtain ⟨wb,sv,fv,nv,vs,hme,hwg,hs,_⟩ := hau;obtain ⟨gs,sc,rfl,hgsl,s0,s1,s2,s3⟩ := hs.read (i := q) (x := poS c q) (by rw [List.getElem?_map,List.getElem?_range (by rw [<- HNP.out];exact hq)];rfl);rw [List.length_map,List.length_range,<- HNP.out] at hme;obtain ⟨s,hsq⟩ : ∃ s,s = poS c q := ⟨_,rfl⟩;rw [<- hsq] at s0 s1 s2 s3;have HSQ := qhid hsq;obtain ⟨X3,hX3⟩ : ∃ X,X = wr.alloc (.cells #[.int .i64 (q : Int),.int .i64 z] 292) := ⟨_,rfl⟩;obtain ⟨xb,hxb⟩ : ∃ a,a = wr.heap.size := ⟨_,rfl⟩;have hb3 : Below wr.heap.size wr X3 := by rw [hX3];exact below1 _ _
   have HB3 := qhid hb3;have HXB : Hid (X3.heap[xb]? = some (.cells #[.int .i64 (q : Int),.int .i64 z] 292 (0,0))) := qhid (by rw [hX3,hxb];exact heap_new _ _);have HME := qhid (below_kept hb3 hme);have kc : ∀ {i v},wr.cell? ⟨gs,i,none⟩ = some v -> X3.cell? ⟨gs,i,none⟩ = some v := fun {i v} hc => (World.cell?_of_block (w := wr) (a := ⟨gs,i,none⟩) (hb3.block gs hgsl)).trans hc
   have HK0 := qhid (kc s0);have HK1 := qhid (kc s1);have HK2 := qhid (kc s2);have HK3 := qhid (kc s3);have HGSL : Hid (gs < X3.heap.size) := qhid (Nat.lt_of_lt_of_le hgsl hb3.size);have HQN := qhid hq;have HZB : Hid (0 <= z /\ z <= top) := qhid ⟨hz0,hz1⟩;have HX3 := qhid hX3;have HXBE := qhid hxb;clear hx hq hz0 hz1 hu hvg hav hva hgal hme hwg hs hgsl s0 s1 s2 s3 hsq hX3 hxb hb3 kc
   go_upto_region 3 with fail
   rw [show wr.alloc (.cells #[.int .i64 (q : Int),.int .i64 z] 292) = X3 from HX3.out.symm,<- HXBE.out];clear k0 k1;refine Reg.wp_region_H (ad3 ab xb gs n sc q s b) (Reg.MkP X3 [] (fun _ _ _ => True)) (fun _ => undef) [0,1,2,3,4,5,6,7,8,9] (by rfl) (by kernel_rfl) (by kernel_rfl) ?_ ?_ ?_
   ·exact Reg.MkP.start _ _
   ·refine ⟨fun gh listed A X hI hcl hin hun hall => ⟨Reg.wanted_none rfl,?_⟩,?_⟩
    ·have e0 := hI.evo (d := 0) (by kernel_rfl) rfl;have HS := hI.st;have hR := HS;have hX := hR.bel;clear hI;have HS2 := qhid HS;clear HS hR hX;unfold Reg.Yields
     go_simp
     first | exact ⟨gh,fun _ _ => rfl,rfl,HS2.out.up (by simp) unit_up (Below.refl _ _)⟩ | exact ⟨rfl,gh,fun _ _ => rfl,rfl,HS2.out.up (by simp) unit_up (Below.refl _ _)⟩
    refine ⟨fun gh listed A X hI hcl hin hun hall => ⟨Reg.wanted_none rfl,?_⟩,?_⟩
    ·have e18 : A.tmps[18]? = some (.pointer (some ⟨ab,0,none⟩)) := hI.ev (i := 0) (d := 18) (by rfl) (hall ⟨0,.data⟩ (by simp) rfl);have HS := hI.st;have hR := HS;have hX := hR.bel;clear hI;have HS2 := qhid HS;clear HS hR hX;unfold Reg.Yields
     go_simp
     first | exact ⟨gh,fun _ _ => rfl,rfl,HS2.out.up (by simp) unit_up (Below.refl _ _)⟩ | exact ⟨rfl,gh,fun _ _ => rfl,rfl,HS2.out.up (by simp) unit_up (Below.refl _ _)⟩
    refine ⟨fun gh listed A X hI hcl hin hun hall => ⟨Reg.wanted_none rfl,?_⟩,?_⟩
    ·have e19 : A.tmps[19]? = some (.pointer (some ⟨ab,0,none⟩)) := hI.ev (i := 1) (d := 19) (by rfl) (hall ⟨1,.data⟩ (by simp) rfl);have HS := hI.st;have hR := HS;have hX := hR.bel;clear hI;have HS2 := qhid HS;clear HS hR hX;unfold Reg.Yields
     go_simp
     first | exact ⟨gh,fun _ _ => rfl,rfl,HS2.out.up (by simp) unit_up (Below.refl _ _)⟩ | exact ⟨rfl,gh,fun _ _ => rfl,rfl,HS2.out.up (by simp) unit_up (Below.refl _ _)⟩
    refine ⟨fun gh listed A X hI hcl hin hun hall => ⟨Reg.wanted_none rfl,?_⟩,?_⟩
    ·have e20 : A.tmps[20]? = some (.pointer (some ⟨ab,1,none⟩)) := hI.ev (i := 2) (d := 20) (by rfl) (hall ⟨2,.data⟩ (by simp) rfl);have HS := hI.st;have hR := HS;have hX := hR.bel;obtain ⟨c0,c1,c2,c3⟩ := au_cells (Reg.heap_kept_up HME.out hX);clear hI;have HS2 := qhid HS;clear HS hR hX;unfold Reg.Yields
     go_simp
     first | exact ⟨gh,fun _ _ => rfl,rfl,HS2.out.up (by simp) unit_up (Below.refl _ _)⟩ | exact ⟨rfl,gh,fun _ _ => rfl,rfl,HS2.out.up (by simp) unit_up (Below.refl _ _)⟩
    refine ⟨fun gh listed A X hI hcl hin hun hall => ⟨Reg.wanted_none rfl,?_⟩,?_⟩
    ·have e11 := hI.evo (d := 11) (by kernel_rfl) rfl;have HS := hI.st;have hR := HS;have hX := hR.bel;clear hI;have HS2 := qhid HS;clear HS hR hX;unfold Reg.Yields
     go_simp
     first | exact ⟨gh,fun _ _ => rfl,rfl,HS2.out.up (by simp) unit_up (Below.refl _ _)⟩ | exact ⟨rfl,gh,fun _ _ => rfl,rfl,HS2.out.up (by simp) unit_up (Below.refl _ _)⟩
    refine ⟨fun gh listed A X hI hcl hin hun hall => ⟨Reg.wanted_none rfl,?_⟩,?_⟩
    ·have e22 : A.tmps[22]? = some (.pointer (some ⟨xb,0,none⟩)) := hI.ev (i := 4) (d := 22) (by rfl) (hall ⟨4,.data⟩ (by simp) rfl);have HS := hI.st;have hR := HS;have hX := hR.bel;obtain ⟨x0,x1⟩ := arc_cells (Reg.heap_kept_up HXB.out hX);clear hI;have HS2 := qhid HS;clear HS hR hX;unfold Reg.Yields
     go_simp
     first | exact ⟨gh,fun _ _ => rfl,rfl,HS2.out.up (by simp) unit_up (Below.refl _ _)⟩ | exact ⟨rfl,gh,fun _ _ => rfl,rfl,HS2.out.up (by simp) unit_up (Below.refl _ _)⟩
    refine ⟨fun gh listed A X hI hcl hin hun hall => ⟨Reg.wanted_none rfl,?_⟩,?_⟩
    ·have e21 : A.tmps[21]? = some (.slice (some ⟨gs,0,none⟩) n sc) := hI.ev (i := 3) (d := 21) (by rfl) (hall ⟨3,.data⟩ (by simp) rfl);have e23 : A.tmps[23]? = some (.int .i64 (q : Int)) := hI.ev (i := 5) (d := 23) (by rfl) (hall ⟨5,.data⟩ (by simp) rfl);have HS := hI.st;have hR := HS;have hX := hR.bel;have hqn := HQN.out;clear hI;have HS2 := qhid HS;clear HS hR hX;unfold Reg.Yields
     go_simp
     first | exact ⟨gh,fun _ _ => rfl,rfl,HS2.out.up (by simp) unit_up (Below.refl _ _)⟩ | exact ⟨rfl,gh,fun _ _ => rfl,rfl,HS2.out.up (by simp) unit_up (Below.refl _ _)⟩
    refine ⟨fun gh listed A X hI hcl hin hun hall => ⟨Reg.wanted_none rfl,?_⟩,?_⟩
    ·have e24 : A.tmps[24]? = some (.pointer (some ⟨gs,q * 4,none⟩)) := hI.ev (i := 6) (d := 24) (by rfl) (hall ⟨6,.data⟩ (by simp) rfl);have HS := hI.st;have hR := HS;have hX := hR.bel;have kc : ∀ {i v},X3.cell? ⟨gs,i,none⟩ = some v -> X.cell? ⟨gs,i,none⟩ = some v := fun {i v} hc => (World.cell?_of_block (w := X3) (a := ⟨gs,i,none⟩) (hX.block gs HGSL.out)).trans hc
     have k0 := kc HK0.out;have k1 := kc HK1.out;have k2 := kc HK2.out;have k3 := kc HK3.out;clear kc;clear hI;have HS2 := qhid HS;clear HS hR hX;unfold Reg.Yields
     go_simp
     first | exact ⟨gh,fun _ _ => rfl,rfl,HS2.out.up (by simp) unit_up (Below.refl _ _)⟩ | exact ⟨rfl,gh,fun _ _ => rfl,rfl,HS2.out.up (by simp) unit_up (Below.refl _ _)⟩
    refine ⟨fun gh listed A X hI hcl hin hun hall => ⟨Reg.wanted_none rfl,?_⟩,?_⟩
    ·have e4 := hI.evo (d := 4) (by kernel_rfl) rfl;have HS := hI.st;have hR := HS;have hX := hR.bel;clear hI;have HS2 := qhid HS;clear HS hR hX;unfold Reg.Yields
     go_simp
     first | exact ⟨gh,fun _ _ => rfl,rfl,HS2.out.up (by simp) unit_up (Below.refl _ _)⟩ | exact ⟨rfl,gh,fun _ _ => rfl,rfl,HS2.out.up (by simp) unit_up (Below.refl _ _)⟩
    refine ⟨fun gh listed A X hI hcl hin hun hall => ⟨Reg.wanted_none rfl,?_⟩,?_⟩
    ·have e25 : A.tmps[25]? = some (.agg #[.int .u64 s.a,.int .u64 s.b,.int .u64 s.c,.int .u64 s.d]) := hI.ev (i := 7) (d := 25) (by rfl) (hall ⟨7,.data⟩ (by simp) rfl);have e26 : A.tmps[26]? = some (.int .u8 b) := hI.ev (i := 8) (d := 26) (by rfl) (hall ⟨8,.data⟩ (by simp) rfl);have HS := hI.st;have hR := HS;have hX := hR.bel;have HM := qhid (has_any s.a s.b s.c s.d b X HBB.out.1 HBB.out.2);clear hI;have HS2 := qhid HS;clear HS hR hX;unfold Reg.Yields
     go_simp
     exact HM.out.mono fun e w2 ⟨he,hw⟩ => ⟨_,he,gh,fun _ _ => rfl,rfl,HS2.out.up (by simp) unit_up (hw)⟩
    trivial
   ·intro gh X5 hS;have HB := qhid hS.bel;clear hS;simp [Reg.finalTmps,Reg.dstAt,Reg.valOf,ad3];have HI5 := qhid (HI.out.below (HB3.out.trans (HB.out.mono HB3.out.size)));have HVG := qhid HI5.out.vec;have HXB5 := qhid (Reg.heap_kept_up HXB.out HB.out);clear HXB;have HXB := HXB5;clear HXB5
    cases hh : hasS s b with
    | false =>
     have HNX : Hid (addA (poS c) b r (l.take (k + 1)) v = u) := qhid (by rw [HTK.out,adA,if_neg];rw [<- HSQ.out,hh];simp);clear hh
     go_wp2_with fail
     go_roundw
     case rel => exact ⟨k + 1,by omega,by go_num,qhid (by rw [HNX.out];exact HI5.out)⟩
     case measure => simp [intOf];omega
    | true =>
     have HNX : Hid (addA (poS c) b r (l.take (k + 1)) v = updW u q (pl (u q) (ti r z))) := qhid (by rw [HTK.out,adA,if_pos];rw [<- HSQ.out,hh]);clear hh
     go_upto_region 4 with fail
     refine Reg.wp_region_H (ad4 g n gc xb q u r z) (Reg.GenH 16 (Reg.MkP X5 [11,13] (fun i b X => (i = 11 -> TwoS r z b X) /\ (i = 13 -> TwoS (u q) (ti r z) b X))) (fun _ X => ∃ Y,Below X5.heap.size X5 Y /\ X = Y.setCell ⟨g,q,none⟩ (.int .i64 (pl (u q) (ti r z))))) (fun _ => undef) [0,1,2,3,4,5,6,7,8,9,10,11,12,13,14,15,16] (by rfl) (by kernel_rfl) (by kernel_rfl) ?_ ?_ ?_
     ·exact Reg.GenH.start (Reg.MkP.start _ _)
     ·refine ⟨fun gh listed A X hI hcl hin hun hall => ⟨Reg.wanted_none rfl,?_⟩,?_⟩
      ·have e1 := hI.evo (d := 1) (by kernel_rfl) rfl;have HS := hI.st;have hR := HS.ahead (Reg.un_of_reach hcl (n := 16) (i := 0) (by kernel_rfl) (by simpa using hun));have hX := hR.bel;clear hI;have HS2 := qhid HS;clear HS hR hX;unfold Reg.Yields
       go_simp
       first | exact ⟨gh,fun _ _ => rfl,rfl,HS2.out.same (by decide) (Reg.un_of_reach hcl (n := 16) (i := 0) (by kernel_rfl) (by simpa using hun)) fun h => h.up (by simp) twoP_up (Below.refl _ _)⟩ | exact ⟨rfl,gh,fun _ _ => rfl,rfl,HS2.out.same (by decide) (Reg.un_of_reach hcl (n := 16) (i := 0) (by kernel_rfl) (by simpa using hun)) fun h => h.up (by simp) twoP_up (Below.refl _ _)⟩
      refine ⟨fun gh listed A X hI hcl hin hun hall => ⟨Reg.wanted_none rfl,?_⟩,?_⟩
      ·have e11 := hI.evo (d := 11) (by kernel_rfl) rfl;have HS := hI.st;have hR := HS.ahead (Reg.un_of_reach hcl (n := 16) (i := 1) (by kernel_rfl) (by simpa using hun));have hX := hR.bel;clear hI;have HS2 := qhid HS;clear HS hR hX;unfold Reg.Yields
       go_simp
       first | exact ⟨gh,fun _ _ => rfl,rfl,HS2.out.same (by decide) (Reg.un_of_reach hcl (n := 16) (i := 1) (by kernel_rfl) (by simpa using hun)) fun h => h.up (by simp) twoP_up (Below.refl _ _)⟩ | exact ⟨rfl,gh,fun _ _ => rfl,rfl,HS2.out.same (by decide) (Reg.un_of_reach hcl (n := 16) (i := 1) (by kernel_rfl) (by simpa using hun)) fun h => h.up (by simp) twoP_up (Below.refl _ _)⟩
      refine ⟨fun gh listed A X hI hcl hin hun hall => ⟨Reg.wanted_none rfl,?_⟩,?_⟩
      ·have e29 : A.tmps[29]? = some (.pointer (some ⟨xb,0,none⟩)) := hI.ev (i := 1) (d := 29) (by rfl) (hall ⟨1,.data⟩ (by simp) rfl);have HS := hI.st;have hR := HS.ahead (Reg.un_of_reach hcl (n := 16) (i := 2) (by kernel_rfl) (by simpa using hun));have hX := hR.bel;obtain ⟨x0,x1⟩ := arc_cells (Reg.heap_kept_up HXB.out hX);clear hI;have HS2 := qhid HS;clear HS hR hX;unfold Reg.Yields
       go_simp
       first | exact ⟨gh,fun _ _ => rfl,rfl,HS2.out.same (by decide) (Reg.un_of_reach hcl (n := 16) (i := 2) (by kernel_rfl) (by simpa using hun)) fun h => h.up (by simp) twoP_up (Below.refl _ _)⟩ | exact ⟨rfl,gh,fun _ _ => rfl,rfl,HS2.out.same (by decide) (Reg.un_of_reach hcl (n := 16) (i := 2) (by kernel_rfl) (by simpa using hun)) fun h => h.up (by simp) twoP_up (Below.refl _ _)⟩
      refine ⟨fun gh listed A X hI hcl hin hun hall => ⟨Reg.wanted_none rfl,?_⟩,?_⟩
      ·have e1 := hI.evo (d := 1) (by kernel_rfl) rfl;have HS := hI.st;have hR := HS.ahead (Reg.un_of_reach hcl (n := 16) (i := 3) (by kernel_rfl) (by simpa using hun));have hX := hR.bel;clear hI;have HS2 := qhid HS;clear HS hR hX;unfold Reg.Yields
       go_simp
       first | exact ⟨gh,fun _ _ => rfl,rfl,HS2.out.same (by decide) (Reg.un_of_reach hcl (n := 16) (i := 3) (by kernel_rfl) (by simpa using hun)) fun h => h.up (by simp) twoP_up (Below.refl _ _)⟩ | exact ⟨rfl,gh,fun _ _ => rfl,rfl,HS2.out.same (by decide) (Reg.un_of_reach hcl (n := 16) (i := 3) (by kernel_rfl) (by simpa using hun)) fun h => h.up (by simp) twoP_up (Below.refl _ _)⟩
      refine ⟨fun gh listed A X hI hcl hin hun hall => ⟨Reg.wanted_none rfl,?_⟩,?_⟩
      ·have e11 := hI.evo (d := 11) (by kernel_rfl) rfl;have HS := hI.st;have hR := HS.ahead (Reg.un_of_reach hcl (n := 16) (i := 4) (by kernel_rfl) (by simpa using hun));have hX := hR.bel;clear hI;have HS2 := qhid HS;clear HS hR hX;unfold Reg.Yields
       go_simp
       first | exact ⟨gh,fun _ _ => rfl,rfl,HS2.out.same (by decide) (Reg.un_of_reach hcl (n := 16) (i := 4) (by kernel_rfl) (by simpa using hun)) fun h => h.up (by simp) twoP_up (Below.refl _ _)⟩ | exact ⟨rfl,gh,fun _ _ => rfl,rfl,HS2.out.same (by decide) (Reg.un_of_reach hcl (n := 16) (i := 4) (by kernel_rfl) (by simpa using hun)) fun h => h.up (by simp) twoP_up (Below.refl _ _)⟩
      refine ⟨fun gh listed A X hI hcl hin hun hall => ⟨Reg.wanted_none rfl,?_⟩,?_⟩
      ·have e32 : A.tmps[32]? = some (.pointer (some ⟨xb,0,none⟩)) := hI.ev (i := 4) (d := 32) (by rfl) (hall ⟨4,.data⟩ (by simp) rfl);have HS := hI.st;have hR := HS.ahead (Reg.un_of_reach hcl (n := 16) (i := 5) (by kernel_rfl) (by simpa using hun));have hX := hR.bel;obtain ⟨x0,x1⟩ := arc_cells (Reg.heap_kept_up HXB.out hX);clear hI;have HS2 := qhid HS;clear HS hR hX;unfold Reg.Yields
       go_simp
       first | exact ⟨gh,fun _ _ => rfl,rfl,HS2.out.same (by decide) (Reg.un_of_reach hcl (n := 16) (i := 5) (by kernel_rfl) (by simpa using hun)) fun h => h.up (by simp) twoP_up (Below.refl _ _)⟩ | exact ⟨rfl,gh,fun _ _ => rfl,rfl,HS2.out.same (by decide) (Reg.un_of_reach hcl (n := 16) (i := 5) (by kernel_rfl) (by simpa using hun)) fun h => h.up (by simp) twoP_up (Below.refl _ _)⟩
      refine ⟨fun gh listed A X hI hcl hin hun hall => ⟨Reg.wanted_none rfl,?_⟩,?_⟩
      ·have e31 : A.tmps[31]? = some (.slice (some ⟨g,0,none⟩) n gc) := hI.ev (i := 3) (d := 31) (by rfl) (hall ⟨3,.data⟩ (by simp) rfl);have e33 : A.tmps[33]? = some (.int .i64 (q : Int)) := hI.ev (i := 5) (d := 33) (by rfl) (hall ⟨5,.data⟩ (by simp) rfl);have HS := hI.st;have hR := HS.ahead (Reg.un_of_reach hcl (n := 16) (i := 6) (by kernel_rfl) (by simpa using hun));have hX := hR.bel;have hqn := HQN.out;clear hI;have HS2 := qhid HS;clear HS hR hX;unfold Reg.Yields
       go_simp
       first | exact ⟨gh,fun _ _ => rfl,rfl,HS2.out.same (by decide) (Reg.un_of_reach hcl (n := 16) (i := 6) (by kernel_rfl) (by simpa using hun)) fun h => h.up (by simp) twoP_up (Below.refl _ _)⟩ | exact ⟨rfl,gh,fun _ _ => rfl,rfl,HS2.out.same (by decide) (Reg.un_of_reach hcl (n := 16) (i := 6) (by kernel_rfl) (by simpa using hun)) fun h => h.up (by simp) twoP_up (Below.refl _ _)⟩
      refine ⟨fun gh listed A X hI hcl hin hun hall => ⟨Reg.wanted_none rfl,?_⟩,?_⟩
      ·have e34 : A.tmps[34]? = some (.pointer (some ⟨g,q,none⟩)) := hI.ev (i := 6) (d := 34) (by rfl) (hall ⟨6,.data⟩ (by simp) rfl);have HS := hI.st;have hR := HS.ahead (Reg.un_of_reach hcl (n := 16) (i := 7) (by kernel_rfl) (by simpa using hun));have hX := hR.bel;have hv : VecI X g n u := Reg.heap_kept_up HVG.out hX;have hc := hv.cell HQN.out;clear hv;clear hI;have HS2 := qhid HS;clear HS hR hX;unfold Reg.Yields
       go_simp
       first | exact ⟨gh,fun _ _ => rfl,rfl,HS2.out.same (by decide) (Reg.un_of_reach hcl (n := 16) (i := 7) (by kernel_rfl) (by simpa using hun)) fun h => h.up (by simp) twoP_up (Below.refl _ _)⟩ | exact ⟨rfl,gh,fun _ _ => rfl,rfl,HS2.out.same (by decide) (Reg.un_of_reach hcl (n := 16) (i := 7) (by kernel_rfl) (by simpa using hun)) fun h => h.up (by simp) twoP_up (Below.refl _ _)⟩
      refine ⟨fun gh listed A X hI hcl hin hun hall => ⟨Reg.wanted_none rfl,?_⟩,?_⟩
      ·have e2 := hI.evo (d := 2) (by kernel_rfl) rfl;have HS := hI.st;have hR := HS.ahead (Reg.un_of_reach hcl (n := 16) (i := 8) (by kernel_rfl) (by simpa using hun));have hX := hR.bel;clear hI;have HS2 := qhid HS;clear HS hR hX;unfold Reg.Yields
       go_simp
       first | exact ⟨gh,fun _ _ => rfl,rfl,HS2.out.same (by decide) (Reg.un_of_reach hcl (n := 16) (i := 8) (by kernel_rfl) (by simpa using hun)) fun h => h.up (by simp) twoP_up (Below.refl _ _)⟩ | exact ⟨rfl,gh,fun _ _ => rfl,rfl,HS2.out.same (by decide) (Reg.un_of_reach hcl (n := 16) (i := 8) (by kernel_rfl) (by simpa using hun)) fun h => h.up (by simp) twoP_up (Below.refl _ _)⟩
      refine ⟨fun gh listed A X hI hcl hin hun hall => ⟨Reg.wanted_none rfl,?_⟩,?_⟩
      ·have e11 := hI.evo (d := 11) (by kernel_rfl) rfl;have HS := hI.st;have hR := HS.ahead (Reg.un_of_reach hcl (n := 16) (i := 9) (by kernel_rfl) (by simpa using hun));have hX := hR.bel;clear hI;have HS2 := qhid HS;clear HS hR hX;unfold Reg.Yields
       go_simp
       first | exact ⟨gh,fun _ _ => rfl,rfl,HS2.out.same (by decide) (Reg.un_of_reach hcl (n := 16) (i := 9) (by kernel_rfl) (by simpa using hun)) fun h => h.up (by simp) twoP_up (Below.refl _ _)⟩ | exact ⟨rfl,gh,fun _ _ => rfl,rfl,HS2.out.same (by decide) (Reg.un_of_reach hcl (n := 16) (i := 9) (by kernel_rfl) (by simpa using hun)) fun h => h.up (by simp) twoP_up (Below.refl _ _)⟩
      refine ⟨fun gh listed A X hI hcl hin hun hall => ⟨Reg.wanted_none rfl,?_⟩,?_⟩
      ·have e37 : A.tmps[37]? = some (.pointer (some ⟨xb,1,none⟩)) := hI.ev (i := 9) (d := 37) (by rfl) (hall ⟨9,.data⟩ (by simp) rfl);have HS := hI.st;have hR := HS.ahead (Reg.un_of_reach hcl (n := 16) (i := 10) (by kernel_rfl) (by simpa using hun));have hX := hR.bel;obtain ⟨x0,x1⟩ := arc_cells (Reg.heap_kept_up HXB.out hX);clear hI;have HS2 := qhid HS;clear HS hR hX;unfold Reg.Yields
       go_simp
       first | exact ⟨gh,fun _ _ => rfl,rfl,HS2.out.same (by decide) (Reg.un_of_reach hcl (n := 16) (i := 10) (by kernel_rfl) (by simpa using hun)) fun h => h.up (by simp) twoP_up (Below.refl _ _)⟩ | exact ⟨rfl,gh,fun _ _ => rfl,rfl,HS2.out.same (by decide) (Reg.un_of_reach hcl (n := 16) (i := 10) (by kernel_rfl) (by simpa using hun)) fun h => h.up (by simp) twoP_up (Below.refl _ _)⟩
      refine ⟨fun gh listed A X hI hcl hin hun hall => ⟨Reg.wanted_none rfl,?_⟩,?_⟩
      ·have e36 : A.tmps[36]? = some (.int .i64 r) := hI.ev (i := 8) (d := 36) (by rfl) (hall ⟨8,.data⟩ (by simp) rfl);have e38 : A.tmps[38]? = some (.int .i64 z) := hI.ev (i := 10) (d := 38) (by rfl) (hall ⟨10,.data⟩ (by simp) rfl);have HS := hI.st;have hR := HS.ahead (Reg.un_of_reach hcl (n := 16) (i := 11) (by kernel_rfl) (by simpa using hun));have hX := hR.bel;clear hI;have HS2 := qhid HS;clear HS hR hX;unfold Reg.Yields
       go_simp
       exact ⟨Reg.updP gh 11 (.slice (some ⟨X.heap.size,0,none⟩) 2 2),fun j hj => ad4_11 (j := j) (fun e => by rw [e] at hj;rw [hj] at hun;cases hun),rfl,HS2.out.same (by decide) (Reg.un_of_reach hcl (n := 16) (i := 11) (by kernel_rfl) (by simpa using hun)) fun h => h.new _ twoP_up (below1 _ _) (⟨fun _ => ⟨_,rfl,heap_new _ _⟩,fun e => absurd e (by decide)⟩)⟩
      refine ⟨fun gh listed A X hI hcl hin hun hall => ⟨Reg.wanted_none rfl,?_⟩,?_⟩
      ·have e39 : A.tmps[39]? = some (gh 11) := hI.ev (i := 11) (d := 39) (by rfl) (hall ⟨11,.data⟩ (by simp) rfl);have HS := hI.st;have hR := HS.ahead (Reg.un_of_reach hcl (n := 16) (i := 12) (by kernel_rfl) (by simpa using hun));have hX := hR.bel;obtain ⟨g2,hgs,hsl⟩ := (hR.at_ 11 (by simp) (hall ⟨11,.data⟩ (by simp) rfl)).1 rfl;rw [hgs] at e39;have HM := qhid (mul2_any g2 r z X HRB.out HZB.out hsl);clear hgs hsl;clear hI;have HS2 := qhid HS;clear HS hR hX;unfold Reg.Yields
       go_simp
       exact HM.out.mono fun e w2 ⟨he,hw⟩ => ⟨_,he,gh,fun _ _ => rfl,rfl,by rw [hw];exact HS2.out.same (by decide) (Reg.un_of_reach hcl (n := 16) (i := 12) (by kernel_rfl) (by simpa using hun)) fun h => h.up (by simp) twoP_up (Below.refl _ _)⟩
      refine ⟨fun gh listed A X hI hcl hin hun hall => ⟨Reg.wanted_none rfl,?_⟩,?_⟩
      ·have e35 : A.tmps[35]? = some (.int .i64 (u q)) := hI.ev (i := 7) (d := 35) (by rfl) (hall ⟨7,.data⟩ (by simp) rfl);have e40 : A.tmps[40]? = some (.int .i64 (ti r z)) := hI.ev (i := 12) (d := 40) (by rfl) (hall ⟨12,.data⟩ (by simp) rfl);have HS := hI.st;have hR := HS.ahead (Reg.un_of_reach hcl (n := 16) (i := 13) (by kernel_rfl) (by simpa using hun));have hX := hR.bel;clear hI;have HS2 := qhid HS;clear HS hR hX;unfold Reg.Yields
       go_simp
       exact ⟨Reg.updP gh 13 (.slice (some ⟨X.heap.size,0,none⟩) 2 2),fun j hj => ad4_13 (j := j) (fun e => by rw [e] at hj;rw [hj] at hun;cases hun),rfl,HS2.out.same (by decide) (Reg.un_of_reach hcl (n := 16) (i := 13) (by kernel_rfl) (by simpa using hun)) fun h => h.new _ twoP_up (below1 _ _) (⟨fun e => absurd e (by decide),fun _ => ⟨_,rfl,heap_new _ _⟩⟩)⟩
      refine ⟨fun gh listed A X hI hcl hin hun hall => ⟨Reg.wanted_none rfl,?_⟩,?_⟩
      ·have e41 : A.tmps[41]? = some (gh 13) := hI.ev (i := 13) (d := 41) (by rfl) (hall ⟨13,.data⟩ (by simp) rfl);have HS := hI.st;have hR := HS.ahead (Reg.un_of_reach hcl (n := 16) (i := 14) (by kernel_rfl) (by simpa using hun));have hX := hR.bel;obtain ⟨g2,hgs,hsl⟩ := (hR.at_ 13 (by simp) (hall ⟨13,.data⟩ (by simp) rfl)).2 rfl;rw [hgs] at e41;have HM := qhid (add2_any g2 (u q) (ti r z) X (HUB.out q) ⟨ti_nn _ _,ti_le _ _⟩ hsl);clear hgs hsl;clear hI;have HS2 := qhid HS;clear HS hR hX;unfold Reg.Yields
       go_simp
       exact HM.out.mono fun e w2 ⟨he,hw⟩ => ⟨_,he,gh,fun _ _ => rfl,rfl,by rw [hw];exact HS2.out.same (by decide) (Reg.un_of_reach hcl (n := 16) (i := 14) (by kernel_rfl) (by simpa using hun)) fun h => h.up (by simp) twoP_up (Below.refl _ _)⟩
      refine ⟨fun gh listed A X hI hcl hin hun hall => ⟨Reg.wanted_none rfl,?_⟩,?_⟩
      ·have e28 : A.tmps[28]? = some (.slice (some ⟨g,0,none⟩) n gc) := hI.ev (i := 0) (d := 28) (by rfl) (hall ⟨0,.data⟩ (by simp) rfl);have e30 : A.tmps[30]? = some (.int .i64 (q : Int)) := hI.ev (i := 2) (d := 30) (by rfl) (hall ⟨2,.data⟩ (by simp) rfl);have HS := hI.st;have hR := HS.ahead (Reg.un_of_reach hcl (n := 16) (i := 15) (by kernel_rfl) (by simpa using hun));have hX := hR.bel;have hqn := HQN.out;clear hI;have HS2 := qhid HS;clear HS hR hX;unfold Reg.Yields
       go_simp
       first | exact ⟨gh,fun _ _ => rfl,rfl,HS2.out.same (by decide) (Reg.un_of_reach hcl (n := 16) (i := 15) (by kernel_rfl) (by simpa using hun)) fun h => h.up (by simp) twoP_up (Below.refl _ _)⟩ | exact ⟨rfl,gh,fun _ _ => rfl,rfl,HS2.out.same (by decide) (Reg.un_of_reach hcl (n := 16) (i := 15) (by kernel_rfl) (by simpa using hun)) fun h => h.up (by simp) twoP_up (Below.refl _ _)⟩
      refine ⟨fun gh listed A X hI hcl hin hun hall => ⟨Reg.wanted_none rfl,?_⟩,?_⟩
      ·have e42 : A.tmps[42]? = some (.int .i64 (pl (u q) (ti r z))) := hI.ev (i := 14) (d := 42) (by rfl) (hall ⟨14,.data⟩ (by simp) rfl);have e43 : A.tmps[43]? = some (.pointer (some ⟨g,q,none⟩)) := hI.ev (i := 15) (d := 43) (by rfl) (hall ⟨15,.data⟩ (by simp) rfl);have HS := hI.st;have hX := (HS.ahead (by simpa using hun)).bel;have hv : VecI X g n u := Reg.heap_kept_up HVG.out hX;have hc := hv.cell HQN.out;have hfz := jU hv q;have HX := qhid hX;clear hX hI hv;have HS2 := qhid HS;clear HS;unfold Reg.Yields
       go_simp
       exact ⟨gh,fun _ _ => rfl,rfl,HS2.out.store (by simpa using hin) ⟨X,HX.out,rfl⟩⟩
      trivial
     ·intro gh X hS;have HR := qhid (hS.done (by rfl));clear hS;simp [Reg.finalTmps,Reg.dstAt,Reg.valOf,ad4];obtain ⟨Y,hY,hXY⟩ := HR.out;have hI6 := HI5.out.put (q := q) (v := pl (u q) (ti r z)) hY;rw [<- hXY,<- HNX.out] at hI6;have HI6 := qhid hI6;clear hY hXY hI6 HR
      go_wp2_with fail
      go_roundw
      case rel => exact ⟨k + 1,by omega,by go_num,HI6⟩
      case measure => simp [intOf];omega
  ·obtain rfl : k = m := by omega
   go_wp2_with fail
   have hI := HI.out;rw [HML.out,List.take_length] at hI;exact bodyPost_end (v := .tuple #[]) (by simp [results,Tryz.results163,go_sem]) rfl ⟨rfl,hI⟩
end
end
end Go.Proofs.YtnmalggmbeipaaaGreatDoor
namespace Go.Proofs.YtnmalggmbeipaaaGreatDoor
section
section
open Go Go.RowKit
attribute [local go_sem ↓] Go.wp_at_zero Go.wp_at_succ
attribute [local go_sem] eq4
theorem AdI.below0 {w w1 w2 : World} {g n : Nat} {u : Wts} (h : AdI w1 g n u w2) (hb : Below w.heap.size w w1) (hg : w.heap.size <= g) : Below w.heap.size w w2 := below_grown hb h.gr hg
theorem VecI.off {w w' : World} {g g2 n : Nat} {v : Wts} (h : VecI w g n v) (hg : w.grownBy w' (some g2)) (hne : g ≠ g2) : VecI w' g n v :=
 (hg.block g (jS h) (fun e => hne (Option.some.inj e))).trans h
theorem aubegin_any (w : World) (ab : Nat) (c : Co) (h : AuAt w ab c) (b : Int) (hb : 0 <= b /\ b <= 255) : Calls Tryz.prog 122 #[.pointer (some ⟨ab,0,none⟩),.int .u8 b] w fun e w' => ∃ g,e = .returned (.slice (some ⟨g,0,none⟩) (prtC c).places (prtC c).places) /\ w.heap.size <= g /\ VecI w' g (prtC c).places (beginA c b) /\ Below w.heap.size w w' := by
 have HZ := qhid (auzero_any w ab c h);have HAU := qhid h;have HBB := qhid hb;obtain ⟨n,hn⟩ : ∃ n,n = (prtC c).places := ⟨_,rfl⟩;rw [<- hn] at HZ ⊢;have HN := qhid hn;clear h hb hn
 go_enter Tryz.func122,Tryz.ntmps122
 go_wp2_with fail
 refine HZ.out.mono ?_;rintro e w1 ⟨g,rfl,hg,hv,hb1⟩;have hau := HAU.out.up hb1;have HAU1 := qhid hau;obtain ⟨wb,sv,fv,nv,vs,hme,hwg,hs,hf,_⟩ := hau;obtain ⟨c0,c1,c2,c3⟩ := au_cells hme;have hn6 := hwg.le;have hAD : Calls Tryz.prog 163 #[.pointer (some ⟨ab,0,none⟩),.slice (some ⟨g,0,none⟩) (prtC c).places (prtC c).places,.int .i64 1,fv,.int .u8 b] w1 (fun e w' => e = .returned (.tuple #[]) /\ AdI w1 g (prtC c).places (beginA c b) w') := auadd_any w1 ab g (prtC c).places c HAU1.out noneW (by rw [<- HN.out];exact hv) leV_none 1 ⟨by omega,by unfold top;omega⟩ fv _ hf (arL_bd (prt_ok c).first) (by have := arL_len (prtC c).first (prtC c).places;omega) b HBB.out;rw [<- HN.out] at hAD hn6;have HAD := qhid hAD;have HB1 := qhid hb1;have HG := qhid hg;clear hme hwg hs hf hv hb1 hn6 hg HZ HAU hAD
 go_wp2_with fail
 refine HAD.out.mono ?_;rintro e w2 ⟨rfl,hI⟩;have HI := qhid hI;clear hI
 go_wp2_with fail
 exact bodyPost_ret (v := .slice (some ⟨g,0,none⟩) n n) (by simp [results,Tryz.results122,go_sem]) rfl ⟨g,rfl,by have := HG.out;omega,HI.out.vec,HI.out.below0 HB1.out (by have := HG.out;omega)⟩
theorem austep_any (w : World) (ab g gc gv vc : Nat) (c : Co) (h : AuAt w ab c) (v : Wts) (hv : VecI w gv (prtC c).places v) (hle : LeV v) (hu : VecI w g (prtC c).places noneW) (hne : gv ≠ g) (hvc : (prtC c).places <= vc) (b : Int) (hb : 0 <= b /\ b <= 255) :
  Calls Tryz.prog 121 #[.pointer (some ⟨ab,0,none⟩),.slice (some ⟨g,0,none⟩) (prtC c).places gc,.slice (some ⟨gv,0,none⟩) (prtC c).places vc,.int .u8 b] w fun e w' => e = .returned (.tuple #[]) /\ AdI w g (prtC c).places (nextA c b v) w' := by
 unfold nextA;have HAU := qhid h;have HV := qhid hv;have HLE := qhid hle;have HU := qhid hu;have HNE := qhid hne;have HBB := qhid hb;obtain ⟨wb,sv,fv,nv,vs,hme,hwg,hs,hf,⟨B,hnv⟩,har⟩ := h;have hn6 := hwg.le;obtain ⟨np,nc,rfl⟩ := owns_slice hnv;obtain ⟨n,hn⟩ : ∃ n,n = (prtC c).places := ⟨_,rfl⟩;have HADD := qhid (fun (X : World) (u : Wts) (hX : AuAt X ab c) (hv : VecI X g (prtC c).places u) (hl : LeV u) (r : Int) (hr : 0 <= r /\ r <= top) (k : Nat) (hk : k < (prtC c).places) (av : Value) (hav : ArAt X av (poF c k)) => auadd_any X ab g gc c hX u hv hl r hr av (poF c k) hav (arL_bd (poN_ok hk)) (by have := arL_len (poN c k) (prtC c).places;unfold poF;omega) b HBB.out);rw [<- hn] at hn6 hvc HV HU HADD hnv hme ⊢;have HME := qhid hme;have HNV := qhid hnv;have HARR := qhid har;obtain ⟨c0,c1,c2,c3⟩ := au_cells hme;have HN := qhid hn;clear hv hle hu hne hb hme hwg hs hf hnv har hn
 go_enter Tryz.func121,Tryz.ntmps121
 go_wp2_with fail
 go_loopw [21] (fun i wr => ∃ k : Nat,k <= n /\ i = .int .i64 (k : Int) /\ Hid (AdI w g n (stepA c b v k) wr)) (fun i _ => n - (intOf i).toNat)
 case atStart => exact ⟨0,Nat.zero_le _,rfl,qhid ⟨grown_below _ (Below.refl _ _),HU.out⟩⟩
 case round =>
  obtain ⟨k,hkn,rfl,HI⟩ := hrel
  by_cases hlt : k < n
  ·have hcell := (HV.out.off HI.out.gr HNE.out).cell hlt;obtain ⟨c0,c1,c2,c3⟩ := au_cells (block_t HME.out auNe_int.2.2.2.1 HI.out.gr HU.out.of);have hnr := row_t HNV.out auNe_int.2.1 HI.out.gr HU.out.of;obtain ⟨gn,cap,hvn,_,hgl⟩ := hnr.form (by omega);have hnp : np = some ⟨gn,0,none⟩ := by injection hvn
   subst hnp;have hvl : vs.length = n := by have := hnr.1;omega
   obtain ⟨av,hav⟩ : ∃ av,vs[k]? = some av := ⟨vs[k]'(by omega),List.getElem?_eq_getElem _⟩
   have hce : wr.cell? ⟨gn,k,none⟩ = some av := by
    have key := hnr.cells (g := gn) rfl k av hav;have ha : (⟨gn,0,none⟩ : Addr).add k = ⟨gn,k,none⟩ := by unfold Addr.add;split <;> simp_all
    rwa [ha] at key
   have har := (HARR.out k av hav).kt auNe_int HI.out.gr HU.out.of;obtain ⟨p,cp,rfl⟩ := owns_slice har.choose_spec
   by_cases h0 : 0 < v k
   ·have HST : Hid (stepA c b v (k + 1) = addA (poS c) b (v k) (poF c k) (stepA c b v k)) := qhid (by rw [stepA,stA,if_pos h0]);have HC := qhid (HADD.out wr (stepA c b v k) (HAU.out.kt auNe_int HI.out.gr HU.out.of) HI.out.vec (stepA_le _ _ _ _) (v k) (HLE.out k) k hlt _ har);clear hnr hvn hgl hav har hvl
    go_wp2_with fail
    refine HC.out.mono ?_;rintro e w2 ⟨rfl,hI2⟩;have HI2 : Hid (AdI w g n (stepA c b v (k + 1)) w2) := qhid ⟨HI.out.gr.trans hI2.gr,by rw [HST.out];exact hI2.vec⟩;clear hI2
    go_wp2_with fail
    go_roundw
    case rel => exact ⟨k + 1,by omega,by go_num,HI2⟩
    case measure => simp [intOf];omega
   ·have HST : Hid (stepA c b v (k + 1) = stepA c b v k) := qhid (by rw [stepA,stA,if_neg h0]);clear hnr hvn hgl hav har hvl
    go_wp2_with fail
    go_roundw
    case rel => exact ⟨k + 1,by omega,by go_num,qhid (by rw [HST.out];exact HI.out)⟩
    case measure => simp [intOf];omega
  ·obtain rfl : k = n := by omega
   go_wp2_with fail
   exact bodyPost_end (v := .tuple #[]) (by simp [results,Tryz.results121,go_sem]) rfl ⟨rfl,HI.out⟩
theorem auStep_any (w : World) (ab gv vc : Nat) (c : Co) (h : AuAt w ab c) (v : Wts) (hv : VecI w gv (prtC c).places v) (hle : LeV v) (hvc : (prtC c).places <= vc) (b : Int) (hb : 0 <= b /\ b <= 255) : Calls Tryz.prog 72 #[.pointer (some ⟨ab,0,none⟩),.slice (some ⟨gv,0,none⟩) (prtC c).places vc,.int .u8 b] w fun e w' => ∃ g,e = .returned (.slice (some ⟨g,0,none⟩) (prtC c).places (prtC c).places) /\ w.heap.size <= g /\ VecI w' g (prtC c).places (nextA c b v) /\ Below w.heap.size w w' := by
 have HZ := qhid (auzero_any w ab c h);have HAU := qhid h;have HBB := qhid hb;have HV := qhid hv;have HLE := qhid hle;have HVC := qhid hvc;obtain ⟨n,hn⟩ : ∃ n,n = (prtC c).places := ⟨_,rfl⟩;rw [<- hn] at HZ ⊢;have HN := qhid hn;clear h hb hv hle hvc hn
 go_enter Tryz.func72,Tryz.ntmps72
 go_wp2_with fail
 refine HZ.out.mono ?_;rintro e w1 ⟨g,rfl,hg,hv,hb1⟩;have hlt := jS HV.out;have hAD := austep_any w1 ab g (prtC c).places gv vc c (HAU.out.up hb1) v (HV.out.up hb1) HLE.out (by rw [<- HN.out];exact hv) (by omega) HVC.out b HBB.out;rw [<- HN.out] at hAD;have HAD := qhid hAD;have HB1 := qhid hb1;have HG := qhid hg;clear hAD hv hb1 hg HZ HAU hlt
 go_wp2_with fail
 refine HAD.out.mono ?_;rintro e w2 ⟨rfl,hI⟩;have HI := qhid hI;clear hI
 go_wp2_with fail
 exact bodyPost_ret (v := .slice (some ⟨g,0,none⟩) n n) (by simp [results,Tryz.results72,go_sem]) rfl ⟨g,rfl,by have := HG.out;omega,HI.out.vec,HI.out.below0 HB1.out (by have := HG.out;omega)⟩
end
end
end Go.Proofs.YtnmalggmbeipaaaGreatDoor
namespace Go.Proofs.YtnmalggmbeipaaaGreatDoor
section
section
open Go Go.RowKit
attribute [local go_sem ↓] Go.wp_at_zero Go.wp_at_succ
attribute [local go_sem] eq4
theorem Tryz.infoBool : (Tryz.prog.info? 4).map (fun i => (i.zero,i.size,i.bytes)) = some (some (.bool false),1,1) := by kernel_rfl
theorem AuAt.le {w : World} {ab : Nat} {c : Co} (h : AuAt w ab c) : (prtC c).places <= 600 := by
 obtain ⟨wb,sv,fv,nv,vs,_,h2,_⟩ := h;exact h2.le
theorem meet_any2 (w : World) (g g2 n c1 c2 : Nat) (hn : n <= 100000) (u v : Wts) (hu : VecI w g n u) (hv : VecI w g2 n v) : Calls Tryz.prog 75 #[.slice (some ⟨g,0,none⟩) n c1,.slice (some ⟨g2,0,none⟩) n c2] w fun e w' => e = .returned (.bool (meetA u v n)) /\ w' = w := by
 have HU := qhid hu;have HV := qhid hv;clear hu hv
 go_enter Tryz.func75,Tryz.ntmps75
 go_wp2_with fail
 go_loopw [11] (fun i wr => ∃ k : Nat,k <= n /\ i = .int .i64 (k : Int) /\ Hid (meetA u v k = false) /\ wr = w) (fun i _ => n - (intOf i).toNat)
 case atStart => exact ⟨0,Nat.zero_le _,rfl,qhid rfl,rfl⟩
 case round =>
  obtain ⟨k,hkn,rfl,HM,hwr⟩ := hrel;rw [hwr] at *
  by_cases hlt : k < n
  ·have h1 := HU.out.cell hlt;have h2 := HV.out.cell hlt
   by_cases p1 : 0 < u k
   ·by_cases p2 : 0 < v k
    ·have HT : Hid (meetA u v n = true) := qhid (by
      unfold meetA;rw [List.any_eq_true]
      exact ⟨k,List.mem_range.2 hlt,by simp [p1,p2]⟩)
     go_wp2_with fail
     exact bodyPost_ret (v := .bool true) (by simp [results,Tryz.results75,go_sem]) rfl ⟨by rw [HT.out],rfl⟩
    ·have HT : Hid (meetA u v (k + 1) = false) := qhid (by rw [meetA_succ,HM.out];simp [p2])
     go_wp2_with fail
     go_roundw
     case rel => exact ⟨k + 1,by omega,by go_num,HT,by first | rfl | trivial⟩
     case measure => simp [intOf];omega
   ·have HT : Hid (meetA u v (k + 1) = false) := qhid (by rw [meetA_succ,HM.out];simp [p1])
    go_wp2_with fail
    go_roundw
    case rel => exact ⟨k + 1,by omega,by go_num,HT,by first | rfl | trivial⟩
    case measure => simp [intOf];omega
  ·obtain rfl : k = n := by omega
   go_wp2_with fail
   exact bodyPost_ret (v := .bool false) (by simp [results,Tryz.results75,go_sem]) rfl ⟨by rw [HM.out],rfl⟩
structure GrB (w : World) (bb B k : Nat) (ys : List Value) (X : World) : Prop where
 st : ∃ (Y Z : World) (r : Option Nat),Below w.heap.size w Y /\ Y.grownBy Z r /\ OfT Y r 4 /\ (∀ b,r = some b -> B <= b) /\ Z.grownBy X (some bb) /\ OfT Z (some bb) 69
 box : ∃ v,X.heap[bb]? = some (.cells #[v] 69 (0,0)) /\ X.ownsRow B 4 1 v (k + 1) ys
theorem bool_ne : 4 ≠ 69 /\ 3 ≠ 4 /\ 3 ≠ 69 /\ 60 ≠ 4 /\ 60 ≠ 69 := by decide
theorem auNe_bool : AuNe 4 /\ AuNe 69 /\ AuNe 60 := by unfold AuNe;decide
theorem row_of {w : World} {B sz n : Nat} {e : TypeId} {v : Value} {xs : List Value} (h : w.ownsRow B e sz v n xs) : OfT w v.ownBlock e := fun b e1 => by
 obtain ⟨c,hc⟩ := owns_cells h e1;exact ⟨_,_,hc⟩
theorem grow_box {w X Y Z : World} {bb B k n : Nat} {mv mv2 : Value} {xs ys : List Value} (h : w.heap[bb]? = some (.cells #[mv] 69 (0,0))) (hrow : w.ownsRow B 4 1 mv n xs) (hnb : mv.ownBlock ≠ some bb) (hY : Below w.heap.size w Y) (hg : Y.grownBy Z mv.ownBlock) (ho : Z.ownsRow B 4 1 mv2 (k + 1) ys) (hX : X = Z.setCell ⟨bb,0,none⟩ mv2) : GrB w bb B k ys X := by
 have hm := wg_grew h hY hg hnb;have hof : OfT Z (some bb) 69 := fun b e => by rw [<- Option.some.inj e];exact ⟨_,_,hm⟩
 have hs : Z.grownBy X (some bb) := by rw [hX];exact set_only Z bb 0 mv2
 refine ⟨⟨Y,Z,_,hY,hg,row_of (ownsBelow hrow hY),fun b e => (ownsLt hrow e).1,hs,hof⟩,mv2,?_,row_t ho bool_ne.1 hs hof⟩;rw [hX];exact (Joins.block_setCell (i := 0) hm mv2).trans rfl
section
variable {w X : World} {bb B k : Nat} {ys : List Value}
theorem GrB.block {b : Nat} {o : Array Value} {e : TypeId} {f2 : Nat × Nat} (h : GrB w bb B k ys X) (hb : w.heap[b]? = some (.cells o e f2)) (h1 : e ≠ 4) (h2 : e ≠ 69) : X.heap[b]? = some (.cells o e f2) := by
 obtain ⟨Y,Z,r,hY,hg,hof,_,hs,hof2⟩ := h.st;exact block_t (block_t (below_kept hY hb) h1 hg hof) h2 hs hof2
theorem GrB.au {ab : Nat} {c : Co} (h : GrB w bb B k ys X) (ha : AuAt w ab c) : AuAt X ab c := by
 obtain ⟨Y,Z,r,hY,hg,hof,_,hs,hof2⟩ := h.st;exact ((ha.up hY).kt auNe_bool.1 hg hof).kt auNe_bool.2.1 hs hof2
theorem GrB.bel {w0 : World} (h : GrB w bb B k ys X) (hw : Below w0.heap.size w0 w) (hB : w0.heap.size <= B) (hbb : w0.heap.size <= bb) : Below w0.heap.size w0 X := by
 obtain ⟨Y,Z,r,hY,hg,_,hr,hs,_⟩ := h.st;have h1 := hw.trans (hY.mono hw.size);exact below_grown ⟨hg.os.trans h1.os,hg.tape.trans h1.tape,hg.output.trans h1.output,Nat.le_trans h1.size hg.size,fun i hi => (hg.block i (Nat.lt_of_lt_of_le hi h1.size) (fun e => by have := hr i e.symm;omega)).trans (h1.block i hi)⟩ hs hbb
end
theorem boxB_up {m : Bool} : Reg.UpP (fun (_ : Nat) (b : Value) X => ∃ g,b = .slice (some ⟨g,0,none⟩) 1 1 /\ X.heap[g]? = some (.cells ([.bool m] : List Value).toArray 4 (0,0))) := fun _ _ _ _ hb ⟨g,e,h⟩ => ⟨g,e,Reg.heap_kept_up h hb⟩
def bg0 (g n gl k mc : Nat) (mp : Option Addr) (m : Bool) (gh : Nat -> Value) : Nat -> Value
 | 0 => .slice mp k mc
 | 1 => .slice (some ⟨g,0,none⟩) n n
 | 2 => .slice (some ⟨gl,0,none⟩) n n
 | 3 => .bool m
 | 4 => gh 4
 | 5 => gh 5
 | 6 => undef
 | _ => undef
theorem bg0_4 {g n gl k mc : Nat} {mp : Option Addr} {m : Bool} {gh : Nat -> Value} {gx} {j : Nat} (h4 : j ≠ 4) : bg0 g n gl k mc mp m (Reg.updP gh 4 gx) j = bg0 g n gl k mc mp m gh j := by
 unfold bg0
 split <;> first | rfl | exact absurd rfl ‹_› | (rw [Reg.updP_other _ _ (by decide)])
theorem bg0_5 {g n gl k mc : Nat} {mp : Option Addr} {m : Bool} {gh : Nat -> Value} {gx} {j : Nat} (h5 : j ≠ 5) : bg0 g n gl k mc mp m (Reg.updP gh 5 gx) j = bg0 g n gl k mc mp m gh j := by
 unfold bg0
 split <;> first | rfl | exact absurd rfl ‹_› | (rw [Reg.updP_other _ _ (by decide)])
theorem bgclo_any (w : World) (bb lb B g gl n k : Nat) (mv : Value) (xs : List Value) (u v : Wts) (hbb : w.heap[bb]? = some (.cells #[mv] 69 (0,0))) (hlb : w.heap[lb]? = some (.cells #[.slice (some ⟨gl,0,none⟩) n n] 60 (0,0))) (hu : VecI w g n u) (hv : VecI w gl n v) (hrow : w.ownsRow B 4 1 mv k xs) (hB : B <= w.heap.size) (hk : k <= 10000000) (hn : n <= 100000) :
  Calls Tryz.prog 74 #[.slice (some ⟨g,0,none⟩) n n,.pointer (some ⟨bb,0,none⟩),.pointer (some ⟨lb,0,none⟩)] w fun e w' => e = .returned (.tuple #[]) /\ GrB w bb B k (xs ++ [.bool (meetA u v n)]) w' := by
 have HBB := qhid hbb;have HLB := qhid hlb;have HVU := qhid hu;have HVV := qhid hv;have HRW := qhid hrow;have HSZ := qhid hB;have HK6 := qhid hk;have HNB6 := qhid hn
 have HNB : Hid (mv.ownBlock ≠ some bb) := qhid (fun e => by
  obtain ⟨cs,fr,h⟩ := row_of hrow bb e;rw [hbb] at h;injection h with h;injection h with _ h
  exact bool_ne.1 h.symm)
 obtain ⟨m,hm⟩ : ∃ m,m = meetA u v n := ⟨_,rfl⟩;rw [<- hm];have HMM := qhid hm;obtain ⟨mp,mc,rfl⟩ := owns_slice hrow;clear hbb hlb hu hv hrow hB hk hm hn
 go_enter Tryz.func74,Tryz.ntmps74
 go_upto_region 0 with fail
 refine Reg.wp_region_H (bg0 g n gl k mc mp m) (Reg.AppR 5 6 (Reg.MkP w [4,5] (fun _ b X => ∃ g,b = .slice (some ⟨g,0,none⟩) 1 1 /\ X.heap[g]? = some (.cells ([.bool m] : List Value).toArray 4 (0,0)))) (fun gh X => ∃ Y,Below w.heap.size w Y /\ Y.grownBy X (.slice mp k mc : Value).ownBlock /\ X.ownsRow B 4 1 (gh 5) (k + 1) (xs ++ [.bool m])) (fun gh X => ∃ Z,(∃ Y,Below w.heap.size w Y /\ Y.grownBy Z (.slice mp k mc : Value).ownBlock /\ Z.ownsRow B 4 1 (gh 5) (k + 1) (xs ++ [.bool m])) /\ X = Z.setCell ⟨bb,0,none⟩ (gh 5))) (fun _ => undef) [0,1,2,3,4,5,6] (by rfl) (by kernel_rfl) (by kernel_rfl) ?_ ?_ ?_
 ·exact Reg.AppR.start (Reg.MkP.start _ _)
 ·refine ⟨fun gh listed A X hI hcl hin hun hall => ⟨Reg.wanted_none rfl,?_⟩,?_⟩
  ·have e1 := hI.evo (d := 1) (by kernel_rfl) rfl;have HS := hI.st;have hR := HS.ahead (Reg.un_of_reach hcl (n := 5) (i := 0) (by kernel_rfl) (by simpa using hun));have hX := hR.bel;have c0 := (jC (Reg.heap_kept_up HBB.out hX) 0).trans rfl;clear hI;have HS2 := qhid HS;clear HS hR hX;unfold Reg.Yields
   go_simp
   first | exact ⟨gh,fun _ _ => rfl,rfl,HS2.out.same (by decide) (by decide) fun h => h.up (by simp) boxB_up (Below.refl _ _)⟩ | exact ⟨rfl,gh,fun _ _ => rfl,rfl,HS2.out.same (by decide) (by decide) fun h => h.up (by simp) boxB_up (Below.refl _ _)⟩
  refine ⟨fun gh listed A X hI hcl hin hun hall => ⟨Reg.wanted_none rfl,?_⟩,?_⟩
  ·have e0 := hI.evo (d := 0) (by kernel_rfl) rfl;have HS := hI.st;have hR := HS.ahead (Reg.un_of_reach hcl (n := 5) (i := 1) (by kernel_rfl) (by simpa using hun));have hX := hR.bel;clear hI;have HS2 := qhid HS;clear HS hR hX;unfold Reg.Yields
   go_simp
   first | exact ⟨gh,fun _ _ => rfl,rfl,HS2.out.same (by decide) (by decide) fun h => h.up (by simp) boxB_up (Below.refl _ _)⟩ | exact ⟨rfl,gh,fun _ _ => rfl,rfl,HS2.out.same (by decide) (by decide) fun h => h.up (by simp) boxB_up (Below.refl _ _)⟩
  refine ⟨fun gh listed A X hI hcl hin hun hall => ⟨Reg.wanted_none rfl,?_⟩,?_⟩
  ·have e2 := hI.evo (d := 2) (by kernel_rfl) rfl;have HS := hI.st;have hR := HS.ahead (Reg.un_of_reach hcl (n := 5) (i := 2) (by kernel_rfl) (by simpa using hun));have hX := hR.bel;have c0 := (jC (Reg.heap_kept_up HLB.out hX) 0).trans rfl;clear hI;have HS2 := qhid HS;clear HS hR hX;unfold Reg.Yields
   go_simp
   first | exact ⟨gh,fun _ _ => rfl,rfl,HS2.out.same (by decide) (by decide) fun h => h.up (by simp) boxB_up (Below.refl _ _)⟩ | exact ⟨rfl,gh,fun _ _ => rfl,rfl,HS2.out.same (by decide) (by decide) fun h => h.up (by simp) boxB_up (Below.refl _ _)⟩
  refine ⟨fun gh listed A X hI hcl hin hun hall => ⟨Reg.wanted_none rfl,?_⟩,?_⟩
  ·have e5 : A.tmps[5]? = some (.slice (some ⟨g,0,none⟩) n n) := hI.ev (i := 1) (d := 5) (by rfl) (hall ⟨1,.data⟩ (by simp) rfl);have e6 : A.tmps[6]? = some (.slice (some ⟨gl,0,none⟩) n n) := hI.ev (i := 2) (d := 6) (by rfl) (hall ⟨2,.data⟩ (by simp) rfl);have HS := hI.st;have hR := HS.ahead (Reg.un_of_reach hcl (n := 5) (i := 3) (by kernel_rfl) (by simpa using hun));have hX := hR.bel;have HM := qhid (meet_any2 X g gl n n n HNB6.out u v (HVU.out.up hX) (HVV.out.up hX));rw [<- HMM.out] at HM;clear hI;have HS2 := qhid HS;clear HS hR hX;unfold Reg.Yields
   go_simp
   exact HM.out.mono fun e w2 ⟨he,hw⟩ => ⟨_,he,gh,fun _ _ => rfl,rfl,by rw [hw];exact HS2.out.same (by decide) (by decide) fun h => h.up (by simp) boxB_up (Below.refl _ _)⟩
  refine ⟨fun gh listed A X hI hcl hin hun hall => ⟨Reg.wanted_none rfl,?_⟩,?_⟩
  ·have e7 : A.tmps[7]? = some (.bool m) := hI.ev (i := 3) (d := 7) (by rfl) (hall ⟨3,.data⟩ (by simp) rfl);have HS := hI.st;have hR := HS.ahead (Reg.un_of_reach hcl (n := 5) (i := 4) (by kernel_rfl) (by simpa using hun));have hX := hR.bel;clear hI;have HS2 := qhid HS;clear HS hR hX;unfold Reg.Yields
   go_simp
   exact ⟨Reg.updP gh 4 (.slice (some ⟨X.heap.size,0,none⟩) 1 1),fun j hj => bg0_4 (j := j) (fun e => by rw [e] at hj;rw [hj] at hun;cases hun),rfl,HS2.out.step (by decide) (by decide) (Reg.un_of_reach hcl (n := 5) (i := 4) (by kernel_rfl) (by simpa using hun)) (Reg.un_of_reach hcl (n := 6) (i := 4) (by kernel_rfl) (by simpa using hun)) fun h => h.new _ boxB_up (below1 _ _) (⟨_,rfl,heap_new _ _⟩)⟩
  refine ⟨fun gh listed A X hI hcl hin hun hall => ⟨Reg.wanted_none rfl,?_⟩,?_⟩
  ·have e4 : A.tmps[4]? = some (.slice mp k mc) := hI.ev (i := 0) (d := 4) (by rfl) (hall ⟨0,.data⟩ (by simp) rfl);have e8 : A.tmps[8]? = some (gh 4) := hI.ev (i := 4) (d := 8) (by rfl) (hall ⟨4,.data⟩ (by simp) rfl);have HS := hI.st;have hR := HS.ahead (by simpa using hun);have hX := hR.bel;obtain ⟨gs,hgs,hsl⟩ := hR.at_ 4 (by simp) (hall ⟨4,.data⟩ (by simp) rfl);rw [hgs] at e8;obtain ⟨i0,hif,hy0,hy1,hy2⟩ := info_parts Tryz.infoBool;have hrow := ownsBelow HRW.out hX;have hsz := hX.size;have hsz1 := HSZ.out;have hk6 := HK6.out;have HX := qhid hX;clear hgs;clear hI;have HS2 := qhid HS;clear HS hR hX;refine Reg.yields_append_own (.tmp 4) (.tmp 8) 69 rfl B 4 i0 (.bool false) 1 1 Tryz.underlying69 hif hy0 hy1 hy2 rfl (by decide) (.slice mp k mc) k xs (by simp [Act.eval,e4]) hrow ⟨gs,0,none⟩ 1 1 [.bool m] (by simp [Act.eval,e8]) rfl (ccells_h hsl) (by intro u hu;rw [List.mem_singleton.1 hu];rfl) (by unfold maxLen;omega) (by omega) (by omega) ?_;intro v' w' ho hg _;exact ⟨Reg.updP gh 5 v',fun j hj => bg0_5 (j := j) (fun e => by rw [e] at hj;rw [hj] at hun;cases hun),rfl,HS2.out.last (by decide) (by simpa using hin) (Reg.un_of_reach hcl (n := 6) (i := 5) (by kernel_rfl) (by simpa using hun)) ⟨X,HX.out,hg,ho⟩⟩
  refine ⟨fun gh listed A X hI hcl hin hun hall => ⟨Reg.wanted_none rfl,?_⟩,?_⟩
  ·have e1 := hI.evo (d := 1) (by kernel_rfl) rfl;have e9 : A.tmps[9]? = some (gh 5) := hI.ev (i := 5) (d := 9) (by rfl) (hall ⟨5,.data⟩ (by simp) rfl);have HS := hI.st;have hl : listed.getD 5 false = true := hall ⟨5,.data⟩ (by simp) rfl;have HR := qhid (HS.done hl (by simpa using hun));obtain ⟨Y,hY,hg,ho⟩ := HR.out;obtain ⟨gw,cw,hvw,_,_⟩ := ho.form (by omega);rw [hvw] at e9;have hme := wg_grew HBB.out hY hg HNB.out;have c0 := (jC hme 0).trans rfl;have hfz := jU hme 0;have HL := qhid hl;have HVW := qhid hvw;clear ho hY hg hme hl hI hvw;have HS2 := qhid HS;clear HS;unfold Reg.Yields
   go_simp
   exact ⟨gh,fun _ _ => rfl,rfl,HS2.out.put (by decide) (by simpa using hin) HL.out ⟨_,HR.out,by rw [HVW.out]⟩⟩
  trivial
 ·intro gh X hS;have HR := qhid (hS.fin (by rfl));clear hS;simp [Reg.finalTmps,Reg.dstAt,Reg.valOf,bg0];obtain ⟨Z,⟨Y,hY,hg,ho⟩,hXZ⟩ := HR.out;have HJ := qhid (grow_box HBB.out HRW.out HNB.out hY hg ho hXZ);clear ho hY hg hXZ HR
  go_wp2_with fail
  exact bodyPost_end (v := .tuple #[]) (by simp [results,Tryz.results74,go_sem]) rfl ⟨rfl,HJ.out⟩
def bgL (c : Co) (s : ByteArray) : Nat -> List Value
 | 0 => [.bool (decide (0 < (prtC c).void))]
 | j + 1 => bgL c s j ++ [.bool (meetA (vecA c s (j + 1)) (prtC c).last (prtC c).places)]
structure BgI (w0 : World) (ab bb lb gl : Nat) (c : Co) (s : ByteArray) (j : Nat) (X : World) : Prop where
 bel : Below w0.heap.size w0 X
 au : AuAt X ab c
 hl : X.heap[lb]? = some (.cells #[.slice (some ⟨gl,0,none⟩) (prtC c).places (prtC c).places] 60 (0,0))
 vl : VecI X gl (prtC c).places (prtC c).last
 box : ∃ v,X.heap[bb]? = some (.cells #[v] 69 (0,0)) /\ X.ownsRow w0.heap.size 4 1 v (j + 1) (bgL c s j)
theorem BgI.up {w0 X Y : World} {ab bb lb gl j : Nat} {c : Co} {s : ByteArray} (h : BgI w0 ab bb lb gl c s j X) (hb : Below X.heap.size X Y) : BgI w0 ab bb lb gl c s j Y := by
 obtain ⟨v,h1,h2⟩ := h.box;exact ⟨h.bel.trans (hb.mono h.bel.size),h.au.up hb,below_kept hb h.hl,h.vl.up hb,v,below_kept hb h1,ownsBelow h2 hb⟩
theorem BgI.next {w0 X Y : World} {ab bb lb gl j : Nat} {c : Co} {s : ByteArray} (h : BgI w0 ab bb lb gl c s j X) (hbb : w0.heap.size <= bb) (hg : GrB X bb w0.heap.size (j + 1) (bgL c s (j + 1)) Y) : BgI w0 ab bb lb gl c s (j + 1) Y :=
 ⟨hg.bel h.bel (jN _) hbb,hg.au h.au,hg.block h.hl bool_ne.2.2.2.1 bool_ne.2.2.2.2,hg.block h.vl bool_ne.2.1 bool_ne.2.2.1,hg.box⟩
theorem mthrough_any (w w0 : World) (ab bb lb gl : Nat) (c : Co) (s : ByteArray) (hs : s.size <= 1000000) (hbb : w0.heap.size <= bb) (h : BgI w0 ab bb lb gl c s 0 w) :
  Calls Tryz.prog 73 #[.pointer (some ⟨ab,0,none⟩),.string s,.func (.func 74) #[] #[.pointer (some ⟨bb,0,none⟩),.pointer (some ⟨lb,0,none⟩)]] w fun e w' => e = .returned (.tuple #[]) /\ BgI w0 ab bb lb gl c s s.size w' := by
 have HI0 := qhid h;have HS := qhid hs;have HBB := qhid hbb;have hs2 : s.size <= 9223372036854775807 := by omega
 obtain ⟨n,hn⟩ : ∃ n,n = (prtC c).places := ⟨_,rfl⟩;have HN := qhid hn;clear h hs hbb hn
 go_enter Tryz.func73,Tryz.ntmps73
 go_wp2_with fail
 go_loopw [6,10] (fun v i wr => ∃ j : Nat,j <= s.size /\ i = .int .i64 (j : Int) /\ Hid (BgI w0 ab bb lb gl c s j wr) /\ ((j = 0 /\ v = .slice none 0 0) \/ (0 < j /\ ∃ g,v = .slice (some ⟨g,0,none⟩) n n /\ Hid (VecI wr g n (vecA c s j))))) (fun _ i _ => s.size - (intOf i).toNat)
 case atStart => exact ⟨0,Nat.zero_le _,rfl,HI0,.inl ⟨rfl,rfl⟩⟩
 case round =>
  clear HI0;obtain ⟨j,hj,rfl,HI,hv⟩ := hrel
  by_cases hlt : j < s.size
  ·have hb : (0 : Int) <= ((s[j]'hlt).toNat : Int) /\ ((s[j]'hlt).toNat : Int) <= 255 := ⟨by omega,by have := (s[j]'hlt).toNat_lt;omega⟩;have HBJ : Hid (((s[j]'hlt).toNat) = bAt s j) := qhid (bAt_in hlt).symm
   have HCL := qhid (fun (X : World) (g : Nat) (hX : BgI w0 ab bb lb gl c s j X) (hu : VecI X g n (vecA c s (j + 1))) => (show Calls Tryz.prog 74 #[.slice (some ⟨g,0,none⟩) n n,.pointer (some ⟨bb,0,none⟩),.pointer (some ⟨lb,0,none⟩)] X fun e w' => e = .returned (.tuple #[]) /\ BgI w0 ab bb lb gl c s (j + 1) w' /\ VecI w' g n (vecA c s (j + 1)) by
    obtain ⟨v,h1,h2⟩ := hX.box;have hvl := hX.vl;have hhl := hX.hl;rw [<- HN.out] at hvl hhl;refine (bgclo_any X bb lb w0.heap.size g gl n (j + 1) v _ (vecA c s (j + 1)) (prtC c).last h1 hhl hu hvl h2 hX.bel.size (by have := HS.out;omega) (by rw [HN.out];have := hX.au.le;omega)).mono ?_;rintro e w' ⟨rfl,hg⟩
    exact ⟨rfl,hX.next HBB.out (by rw [HN.out] at hg;exact hg),hg.block hu bool_ne.2.1 bool_ne.2.2.1⟩))
   rcases hv with ⟨rfl,rfl⟩ | ⟨h0,g,rfl,HV⟩
   ·have HBG := qhid (aubegin_any wr ab c HI.out.au _ hb);rw [<- HN.out] at HBG;clear hb
    go_wp2_with fail
    refine HBG.out.mono ?_;rintro e w2 ⟨g,rfl,hg,hv2,hb2⟩;have HV2 : Hid (VecI w2 g n (vecA c s (0 + 1))) := qhid (by rw [HBJ.out] at hv2;exact hv2);have HC := qhid (HCL.out w2 g (HI.out.up hb2) HV2.out);clear hv2 hb2 hg
    go_wp2_with fail
    refine HC.out.mono ?_;rintro e w3 ⟨rfl,hI3,hV3⟩;have HI3 := qhid hI3;have HV3 := qhid hV3;clear hI3 hV3
    go_wp2_with fail
    go_roundw
    case rel => exact ⟨0 + 1,by omega,by go_num,HI3,.inr ⟨by omega,g,rfl,HV3⟩⟩
    case measure => simp [intOf];omega
   ·have hne : ¬ ((j : Int) = 0) := by omega
    have HST := qhid (auStep_any wr ab g n c HI.out.au (vecA c s j) (by rw [<- HN.out];exact HV.out) (vecA_le _ _ _) (by rw [HN.out];exact jN _) _ hb);rw [<- HN.out] at HST;clear hb
    go_wp2_with fail
    refine HST.out.mono ?_;rintro e w2 ⟨g2,rfl,hg,hv2,hb2⟩
    have HV2 : Hid (VecI w2 g2 n (vecA c s (j + 1))) := qhid (by
     obtain ⟨i,rfl⟩ : ∃ i,j = i + 1 := ⟨j - 1,by omega⟩;rw [HBJ.out] at hv2
     exact hv2)
    have HC := qhid (HCL.out w2 g2 (HI.out.up hb2) HV2.out);clear hv2 hb2 hg
    go_wp2_with fail
    refine HC.out.mono ?_;rintro e w3 ⟨rfl,hI3,hV3⟩;have HI3 := qhid hI3;have HV3 := qhid hV3;clear hI3 hV3
    go_wp2_with fail
    go_roundw
    case rel => exact ⟨j + 1,by omega,by go_num,HI3,.inr ⟨by omega,g2,rfl,HV3⟩⟩
    case measure => simp [intOf];omega
  ·obtain rfl : j = s.size := by omega
   clear hv
   go_wp2_with fail
   exact bodyPost_end (v := .tuple #[]) (by simp [results,Tryz.results73,go_sem]) rfl ⟨rfl,HI.out⟩
theorem beginnings_any (w : World) (ab : Nat) (c : Co) (h : AuAt w ab c) (s : ByteArray) (hs : s.size <= 1000000) :
  Calls Tryz.prog 30 #[.pointer (some ⟨ab,0,none⟩),.string s] w fun e w' => ∃ v,e = .returned v /\ w'.ownsRow w.heap.size 4 1 v (s.size + 1) (bgL c s s.size) /\ Below w.heap.size w w' := by
 have hmf : ∀ (fn : Fn) (first cap : Array Value) (w : World),(Instr.makeFunc fn first cap).run Tryz.prog w = .ok (.func fn first cap) w := fun _ _ _ _ => rfl
 obtain ⟨wb,sv,fv,nv,vs,hme,hwg,_⟩ := h.ex;obtain ⟨c0,c1,c2,c3⟩ := au_cells hme;have HL := qhid (wlast_any w wb c hwg);have HAU := qhid h;have HS := qhid hs;have HME := qhid hme;have HWG := qhid hwg;obtain ⟨n,hn⟩ : ∃ n,n = (prtC c).places := ⟨_,rfl⟩;rw [<- hn] at HL;have HN := qhid hn;clear h hs hme hwg hn
 go_enter Tryz.func30,Tryz.ntmps30
 go_wp2_with fail
 refine HL.out.mono ?_;rintro e w1 ⟨gl,rfl,hvl,hb1⟩;obtain ⟨lb,hlb⟩ : ∃ a,a = w1.heap.size := ⟨_,rfl⟩;obtain ⟨W2,hW2⟩ : ∃ X,X = w1.alloc (.cells #[.slice (some ⟨gl,0,none⟩) n n] 60) := ⟨_,rfl⟩;have hb2 : Below w1.heap.size w1 W2 := by rw [hW2];exact below1 _ _
 have hbb2 := hb1.trans (hb2.mono hb1.size);have HLB : Hid (W2.heap[lb]? = some (.cells #[.slice (some ⟨gl,0,none⟩) n n] 60 (0,0))) := qhid (by rw [hW2,hlb];exact heap_new _ _);have HVL := qhid (hvl.up hb2);have HB2 := qhid hbb2;have HVO := qhid (void_any W2 wb c (HWG.out.up hbb2));obtain ⟨c0,c1,c2,c3⟩ := au_cells (below_kept hbb2 HME.out);have HW2 := qhid hW2;have HLBE := qhid hlb;clear hvl hb1 hb2 hbb2 hW2 hlb HL
 go_upto_region 4 with fail
 rw [show w1.alloc (.cells #[.slice (some ⟨gl,0,none⟩) n n] 60) = W2 from HW2.out.symm,<- HLBE.out]
 go_wp2_with fail
 refine HVO.out.mono ?_;rintro e w3 ⟨rfl,hw3⟩;obtain rfl := hw3;obtain ⟨vd,hvd⟩ : ∃ v,v = decide (0 < (prtC c).void) := ⟨_,rfl⟩;obtain ⟨W3,hW3⟩ : ∃ X,X = w3.alloc (.cells #[.bool vd] 4) := ⟨_,rfl⟩;obtain ⟨W4,hW4⟩ : ∃ X,X = W3.alloc (.cells #[.slice (some ⟨w3.heap.size,0,none⟩) 1 1] 69) := ⟨_,rfl⟩;have hb3 : Below w3.heap.size w3 W3 := by rw [hW3];exact below1 _ _
 have hb4 : Below W3.heap.size W3 W4 := by rw [hW4];exact below1 _ _
 have hb34 := hb3.trans (hb4.mono hb3.size)
 have hI4 : BgI w ab W3.heap.size lb gl c s 0 W4 := by
  refine ⟨HB2.out.trans (hb34.mono HB2.out.size),(HAU.out.up HB2.out).up hb34,?_,?_,.slice (some ⟨w3.heap.size,0,none⟩) 1 1,by rw [hW4];exact heap_new _ _,?_⟩
  ·rw [<- HN.out];exact below_kept hb34 HLB.out
  ·rw [<- HN.out];exact HVL.out.up hb34
  ·have hh : W4.heap[w3.heap.size]? = some (.cells #[.bool vd] 4 (0,0)) := below_kept hb4 (by rw [hW3];exact heap_new _ _);refine ⟨rfl,.inr ⟨_,1,_,rfl,HB2.out.size,hh,by simp,by decide,rfl,?_⟩⟩;rw [bgL,<- hvd];rfl
 have HI4 := qhid hI4;have HT := qhid (mthrough_any W4 w ab W3.heap.size lb gl c s HS.out (by have := HB2.out.size;have := hb3.size;omega) hI4);have HW3 := qhid hW3;have HW4 := qhid hW4;have HSZ3 : Hid (W3.heap.size = w3.heap.size + 1) := qhid (by rw [hW3];simp);have HVD := qhid hvd;clear hW3 hW4 hb3 hb4 hb34 hI4 hvd HVO HLB HVL
 go_upto_region 5 with fail
 rw [<- HVD.out,show w3.alloc (.cells #[.bool vd] 4) = W3 from HW3.out.symm,show W3.alloc (.cells #[.slice (some ⟨w3.heap.size,0,none⟩) 1 1] 69) = W4 from HW4.out.symm,<- HSZ3.out]
 go_wp2_with fail
 refine HT.out.mono ?_;rintro e w5 ⟨rfl,hI5⟩;obtain ⟨v,h1,h2⟩ := hI5.box;obtain ⟨p,cp,rfl⟩ := owns_slice h2;have c6 := (jC h1 0).trans rfl;have HR := qhid h2;have HB5 := qhid hI5.bel;clear h1 h2 hI5 HT
 go_wp2_with fail
 exact bodyPost_ret (v := .slice p (s.size + 1) cp) (by simp [results,Tryz.results30,go_sem]) rfl ⟨_,rfl,HR.out,HB5.out⟩
end
end
end Go.Proofs.YtnmalggmbeipaaaGreatDoor
