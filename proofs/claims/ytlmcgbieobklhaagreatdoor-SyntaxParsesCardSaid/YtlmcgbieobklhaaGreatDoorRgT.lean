/- A part of the proof. -/
import Derived.Test.YtlmcgbieobklhaaGreatDoorRgD
import Derived.Test.YtlmcgbieobklhaaGreatDoorPbU
import Derived.Lib.MinMax
set_option maxRecDepth 100000
set_option maxHeartbeats 16000000
namespace Go.Proofs.YtlmcgbieobklhaaGreatDoor
section
open Go Go.RowKit
attribute [local go_sem ↓] Go.wp_at_zero Go.wp_at_succ
attribute [local go_sem] eq4
theorem rsize_step (k : Int) (s : W4) (lo hi : Int) (z : Bool) (a b : Nat) (l : List Tr) (A : Nat -> Prop) (lv : Value) (w : World) (hlb : trSizes l <= 1099511000000)
  (ht : RnAt w A (.mk k s lo hi z a b l) lv)
  (ih : ∀ (c : Tr) {i : Nat},l[i]? = some c -> ∀ (X : World) (B : Nat -> Prop) (v : Value),RnAt X B c v -> Calls Tryz.prog 13 #[rnV c v] X fun e w' => e = .returned (.int .i64 ((foldR (cntN sizeN)) c)) /\ Below X.heap.size X w') :
  Calls Tryz.prog 13 #[rnV (.mk k s lo hi z a b l) lv] w fun e w' => e = .returned (.int .i64 ((foldR (cntN sizeN)) (.mk k s lo hi z a b l))) /\ Below w.heap.size w w' := by
 obtain ⟨p,cap,rfl⟩ := ht.slice_len;have HT := qhid ht;have HIH := qhid ih
 have HBND : Hid (∀ (i : Nat) (x : Int),(l.map (foldR (cntN sizeN)))[i]? = some x -> 0 <= x /\ 0 <= 1 + isum ((l.map (foldR (cntN sizeN))).take i) /\ 1 + isum ((l.map (foldR (cntN sizeN))).take (i + 1)) = 1 + isum ((l.map (foldR (cntN sizeN))).take i) + x /\ 1 + isum ((l.map (foldR (cntN sizeN))).take (i + 1)) <= 1099511000001) := qhid (fun i x h => by
  have b1 := (cnt_bound sizeN (fun u => by unfold sizeN;first | omega | (split <;> omega)) (trSize (.mk k s lo hi z a b l)) (.mk k s lo hi z a b l) (jN _)).2.2
  have b2 : ∀ y ∈ l.map (foldR (cntN sizeN)),0 <= y := fun y hy => by
   obtain ⟨u,hu,rfl⟩ := List.mem_map.1 hy;exact (cnt_bound sizeN (fun u => by unfold sizeN;first | omega | (split <;> omega)) (trSize u) u (jN _)).1
  have b3 := isum_le b2 i;have b4 := isum_le b2 (i + 1);have b5 := isum_take _ i x h;have b6 := b2 x (List.mem_of_getElem? h);have b7 : isum (l.map (foldR (cntN sizeN))) <= trSizes l := b1.2
  refine ⟨b6,by omega,by omega,by omega⟩)
 have hlen := trSizes_len l;obtain ⟨res,hres⟩ : ∃ r,r = (foldR (cntN sizeN)) (.mk k s lo hi z a b l) := ⟨_,rfl⟩;rw [<- hres];have HRES := qhid hres;obtain ⟨W1,hW1⟩ : ∃ X,X = w.alloc (.cells #[.int .i64 k,.int .u64 s.a,.int .u64 s.b,.int .u64 s.c,.int .u64 s.d,.int .i64 lo,.int .i64 hi,.bool z,(.slice p l.length cap),.int .i64 (a : Int),.int .i64 (b : Int)] 32) := ⟨_,rfl⟩;have HB1 : Hid (Below w.heap.size w W1) := qhid (by rw [hW1];exact below1 w _);have HK1 : Hid (W1.heap[w.heap.size]? = some (.cells #[.int .i64 k,.int .u64 s.a,.int .u64 s.b,.int .u64 s.c,.int .u64 s.d,.int .i64 lo,.int .i64 hi,.bool z,(.slice p l.length cap),.int .i64 (a : Int),.int .i64 (b : Int)] 32)) := qhid (by rw [hW1];exact heap_new w _);have HW1 := qhid hW1;change Calls _ _ #[.agg #[.int .i64 k,.int .u64 s.a,.int .u64 s.b,.int .u64 s.c,.int .u64 s.d,.int .i64 lo,.int .i64 hi,.bool z,(.slice p l.length cap),.int .i64 (a : Int),.int .i64 (b : Int)]] _ _;have x0 := jC HK1.out 0;have x8 := jC HK1.out 8;have hx1 := jS HK1.out;simp only [Reg.la,Reg.lb,Reg.lc] at x0 x8;clear ht ih hres hW1
 go_enter Tryz.func13,Tryz.ntmps13
 go_upto_region 1 with fail
 rw [<- HW1.out];clear HW1
 go_wp2_with fail
 clear x0 x8 hx1
 go_loopw [3,4] (fun sv iv wr => ∃ i : Nat,i <= l.length /\ iv = .int .i64 (i : Int) /\ sv = .int .i64 (1 + isum ((l.map (foldR (cntN sizeN))).take i)) /\ Hid (Below W1.heap.size W1 wr)) (fun _ iv _ => l.length - (intOf iv).toNat)
 case atStart => exact ⟨0,by omega,rfl,by simp [isum],qhid (Below.refl _ _)⟩
 case round =>
  obtain ⟨i,hi2,rfl,rfl,HB⟩ := hrel;have HBW := qhid (HB1.out.trans (HB.out.mono HB1.out.size));have hb1 := (HB.out.block _ (jS HK1.out)).trans HK1.out;have x0 := jC hb1 0;have x8 := jC hb1 8;have hl1 := jS hb1;simp only [Reg.la,Reg.lb,Reg.lc] at x0 x8;clear hb1
  by_cases hlt : i < l.length
  ·obtain ⟨c,hc⟩ : ∃ c,l[i]? = some c := ⟨_,List.getElem?_eq_getElem hlt⟩;have hgc : (l.map (foldR (cntN sizeN)))[i]? = some ((foldR (cntN sizeN)) c) := by rw [List.getElem?_map,hc];rfl
   have HBD := qhid (HBND.out i ((foldR (cntN sizeN)) c) hgc);have HC := qhid (HIH.out c hc);obtain ⟨k1,s1,lo1,hi1,z1,a1,b1,l1⟩ := c;obtain ⟨g,cp1,lu1,hv1,hg1,hr1,c0,⟨c1,c2,c3,c4⟩,c5,c6,c7,c8,c9,c10⟩ := (HT.out.up HBW.out).get hc;injection hv1 with hv1 _ hv2;subst hv1 hv2;obtain ⟨pp,n1,cq,rfl⟩ := hr1.slice;have HR := qhid (HC.out wr _ _ hr1);generalize (foldR (cntN sizeN)) (.mk k1 s1 lo1 hi1 z1 a1 b1 l1) = v1 at *;obtain ⟨s0,hs0⟩ : ∃ q,q = 1 + isum ((l.map (foldR (cntN sizeN))).take i) := ⟨_,rfl⟩;obtain ⟨s2,hs2⟩ : ∃ q,q = 1 + isum ((l.map (foldR (cntN sizeN))).take (i + 1)) := ⟨_,rfl⟩;rw [<- hs0,<- hs2] at HBD;have HS2 := qhid hs2;rw [<- hs0];obtain ⟨bd0,bd1,bd2,bd3⟩ := HBD.out;clear hr1 hc hs0 hs2 HC hgc
   go_wp2_with fail
   refine HR.out.mono ?_;rintro e w2 ⟨rfl,hb⟩;have HB2 := qhid (HB.out.trans (hb.mono HB.out.size));clear hb HR c0 c1 c2 c3 c4 c5 c6 c7 c8 c9 c10 x0 x8 hl1
   go_wp2_with fail
   go_roundw
   case rel => exact ⟨i + 1,by omega,by go_num,by rw [<- HS2.out];go_num,HB2⟩
   case measure => simp [intOf];omega
  ·obtain rfl : i = l.length := by omega
   have HFIN : Hid (foldR (cntN sizeN) (.mk k s lo hi z a b l) = 1 + isum (l.map (foldR (cntN sizeN)))) := qhid (by rw [foldR,foldL_map];rfl);have HFF : Hid (res = 1 + isum ((l.map (foldR (cntN sizeN))).take l.length)) := qhid (by rw [HRES.out,HFIN.out,List.take_of_length_le (by simp)]);rw [show 1 + isum ((l.map (foldR (cntN sizeN))).take l.length) = res from HFF.out.symm]
   go_wp2_with fail
   exact bodyPost_ret (v := .int .i64 res) (by simp [results,Tryz.results13,go_sem]) rfl ⟨rfl,HBW.out⟩
theorem rsize_any : ∀ (n : Nat) (t : Tr) (A : Nat -> Prop) (lv : Value) (w : World),trSize t <= n -> n <= 1099511000000 -> RnAt w A t lv ->
  Calls Tryz.prog 13 #[rnV t lv] w fun e w' => e = .returned (.int .i64 (foldR (cntN sizeN) t)) /\ Below w.heap.size w w'
 | 0,t,A,lv,w,h,_,_ => by have := trSize_pos t;omega
 | n + 1,.mk k s lo hi z a b l,A,lv,w,h,hn,ht => by
  rw [trSize] at h;exact rsize_step k s lo hi z a b l A lv w (by omega) ht (fun c i hc X B v h1 => rsize_any n c B v X (by have := trSize_mem (List.mem_of_getElem? hc);omega) (by omega) h1)
theorem rcount_step (k : Int) (s : W4) (lo hi : Int) (z : Bool) (a b : Nat) (l : List Tr) (A : Nat -> Prop) (lv : Value) (w : World) (hlb : trSizes l <= 1099511000000)
  (ht : RnAt w A (.mk k s lo hi z a b l) lv)
  (ih : ∀ (c : Tr) {i : Nat},l[i]? = some c -> ∀ (X : World) (B : Nat -> Prop) (v : Value),RnAt X B c v -> Calls Tryz.prog 15 #[rnV c v,.int .i64 2] X fun e w' => e = .returned (.int .i64 ((foldR (cntN groupsN)) c)) /\ Below X.heap.size X w') :
  Calls Tryz.prog 15 #[rnV (.mk k s lo hi z a b l) lv,.int .i64 2] w fun e w' => e = .returned (.int .i64 ((foldR (cntN groupsN)) (.mk k s lo hi z a b l))) /\ Below w.heap.size w w' := by
 obtain ⟨p,cap,rfl⟩ := ht.slice_len;have HT := qhid ht;have HIH := qhid ih;have hlen := trSizes_len l;obtain ⟨res,hres⟩ : ∃ r,r = (foldR (cntN groupsN)) (.mk k s lo hi z a b l) := ⟨_,rfl⟩;rw [<- hres];have HRES := qhid hres;obtain ⟨W1,hW1⟩ : ∃ X,X = w.alloc (.cells #[.int .i64 k,.int .u64 s.a,.int .u64 s.b,.int .u64 s.c,.int .u64 s.d,.int .i64 lo,.int .i64 hi,.bool z,(.slice p l.length cap),.int .i64 (a : Int),.int .i64 (b : Int)] 32) := ⟨_,rfl⟩;have HB1 : Hid (Below w.heap.size w W1) := qhid (by rw [hW1];exact below1 w _);have HK1 : Hid (W1.heap[w.heap.size]? = some (.cells #[.int .i64 k,.int .u64 s.a,.int .u64 s.b,.int .u64 s.c,.int .u64 s.d,.int .i64 lo,.int .i64 hi,.bool z,(.slice p l.length cap),.int .i64 (a : Int),.int .i64 (b : Int)] 32)) := qhid (by rw [hW1];exact heap_new w _);have HW1 := qhid hW1;change Calls _ _ #[.agg #[.int .i64 k,.int .u64 s.a,.int .u64 s.b,.int .u64 s.c,.int .u64 s.d,.int .i64 lo,.int .i64 hi,.bool z,(.slice p l.length cap),.int .i64 (a : Int),.int .i64 (b : Int)],.int .i64 2] _ _;have x0 := jC HK1.out 0;have x8 := jC HK1.out 8;have hx1 := jS HK1.out;simp only [Reg.la,Reg.lb,Reg.lc] at x0 x8;clear ht ih hres hW1
 by_cases hk : k = 2
 ·have HK2 := qhid (show kdT (.mk k s lo hi z a b l) = 2 from hk)
  have HBND : Hid (∀ (i : Nat) (x : Int),(l.map (foldR (cntN groupsN)))[i]? = some x -> 0 <= x /\ 0 <= 1 + isum ((l.map (foldR (cntN groupsN))).take i) /\ 1 + isum ((l.map (foldR (cntN groupsN))).take (i + 1)) = 1 + isum ((l.map (foldR (cntN groupsN))).take i) + x /\ 1 + isum ((l.map (foldR (cntN groupsN))).take (i + 1)) <= 1099511000001) := qhid (fun i x h => by
   have b1 := (cnt_bound groupsN (fun u => by unfold groupsN;first | omega | (split <;> omega)) (trSize (.mk k s lo hi z a b l)) (.mk k s lo hi z a b l) (jN _)).2.2
   have b2 : ∀ y ∈ l.map (foldR (cntN groupsN)),0 <= y := fun y hy => by
    obtain ⟨u,hu,rfl⟩ := List.mem_map.1 hy;exact (cnt_bound groupsN (fun u => by unfold groupsN;first | omega | (split <;> omega)) (trSize u) u (jN _)).1
   have b3 := isum_le b2 i;have b4 := isum_le b2 (i + 1);have b5 := isum_take _ i x h;have b6 := b2 x (List.mem_of_getElem? h);have b7 : isum (l.map (foldR (cntN groupsN))) <= trSizes l := b1.2
   refine ⟨b6,by omega,by omega,by omega⟩)
  subst hk
  go_enter Tryz.func15,Tryz.ntmps15
  go_upto_region 1 with fail
  rw [<- HW1.out];clear HW1
  go_wp2_with fail
  clear x0 x8 hx1
  go_loopw [5,6] (fun sv iv wr => ∃ i : Nat,i <= l.length /\ iv = .int .i64 (i : Int) /\ sv = .int .i64 (1 + isum ((l.map (foldR (cntN groupsN))).take i)) /\ Hid (Below W1.heap.size W1 wr)) (fun _ iv _ => l.length - (intOf iv).toNat)
  case atStart => exact ⟨0,by omega,rfl,by simp [isum],qhid (Below.refl _ _)⟩
  case round =>
   obtain ⟨i,hi2,rfl,rfl,HB⟩ := hrel;have HBW := qhid (HB1.out.trans (HB.out.mono HB1.out.size));have hb1 := (HB.out.block _ (jS HK1.out)).trans HK1.out;have x0 := jC hb1 0;have x8 := jC hb1 8;have hl1 := jS hb1;simp only [Reg.la,Reg.lb,Reg.lc] at x0 x8;clear hb1
   by_cases hlt : i < l.length
   ·obtain ⟨c,hc⟩ : ∃ c,l[i]? = some c := ⟨_,List.getElem?_eq_getElem hlt⟩;have hgc : (l.map (foldR (cntN groupsN)))[i]? = some ((foldR (cntN groupsN)) c) := by rw [List.getElem?_map,hc];rfl
    have HBD := qhid (HBND.out i ((foldR (cntN groupsN)) c) hgc);have HC := qhid (HIH.out c hc);obtain ⟨k1,s1,lo1,hi1,z1,a1,b1,l1⟩ := c;obtain ⟨g,cp1,lu1,hv1,hg1,hr1,c0,⟨c1,c2,c3,c4⟩,c5,c6,c7,c8,c9,c10⟩ := (HT.out.up HBW.out).get hc;injection hv1 with hv1 _ hv2;subst hv1 hv2;obtain ⟨pp,n1,cq,rfl⟩ := hr1.slice;have HR := qhid (HC.out wr _ _ hr1);generalize (foldR (cntN groupsN)) (.mk k1 s1 lo1 hi1 z1 a1 b1 l1) = v1 at *;obtain ⟨s0,hs0⟩ : ∃ q,q = 1 + isum ((l.map (foldR (cntN groupsN))).take i) := ⟨_,rfl⟩;obtain ⟨s2,hs2⟩ : ∃ q,q = 1 + isum ((l.map (foldR (cntN groupsN))).take (i + 1)) := ⟨_,rfl⟩;rw [<- hs0,<- hs2] at HBD;have HS2 := qhid hs2;rw [<- hs0];obtain ⟨bd0,bd1,bd2,bd3⟩ := HBD.out;clear hr1 hc hs0 hs2 HC hgc
    go_wp2_with fail
    refine HR.out.mono ?_;rintro e w2 ⟨rfl,hb⟩;have HB2 := qhid (HB.out.trans (hb.mono HB.out.size));clear hb HR c0 c1 c2 c3 c4 c5 c6 c7 c8 c9 c10 x0 x8 hl1
    go_wp2_with fail
    go_roundw
    case rel => exact ⟨i + 1,by omega,by go_num,by rw [<- HS2.out];go_num,HB2⟩
    case measure => simp [intOf];omega
   ·obtain rfl : i = l.length := by omega
    have HFIN : Hid (foldR (cntN groupsN) (.mk 2 s lo hi z a b l) = 1 + isum (l.map (foldR (cntN groupsN)))) := qhid (by rw [foldR,foldL_map];show groupsN _ + isum _ = _;rw [show groupsN (.mk 2 s lo hi z a b l) = 1 from if_pos HK2.out]);have HFF : Hid (res = 1 + isum ((l.map (foldR (cntN groupsN))).take l.length)) := qhid (by rw [HRES.out,HFIN.out,List.take_of_length_le (by simp)]);rw [show 1 + isum ((l.map (foldR (cntN groupsN))).take l.length) = res from HFF.out.symm]
    go_wp2_with fail
    exact bodyPost_ret (v := .int .i64 res) (by simp [results,Tryz.results15,go_sem]) rfl ⟨rfl,HBW.out⟩
 ·have HK2 := qhid (show ¬ kdT (.mk k s lo hi z a b l) = 2 from hk)
  have HBND : Hid (∀ (i : Nat) (x : Int),(l.map (foldR (cntN groupsN)))[i]? = some x -> 0 <= x /\ 0 <= 0 + isum ((l.map (foldR (cntN groupsN))).take i) /\ 0 + isum ((l.map (foldR (cntN groupsN))).take (i + 1)) = 0 + isum ((l.map (foldR (cntN groupsN))).take i) + x /\ 0 + isum ((l.map (foldR (cntN groupsN))).take (i + 1)) <= 1099511000001) := qhid (fun i x h => by
   have b1 := (cnt_bound groupsN (fun u => by unfold groupsN;first | omega | (split <;> omega)) (trSize (.mk k s lo hi z a b l)) (.mk k s lo hi z a b l) (jN _)).2.2
   have b2 : ∀ y ∈ l.map (foldR (cntN groupsN)),0 <= y := fun y hy => by
    obtain ⟨u,hu,rfl⟩ := List.mem_map.1 hy;exact (cnt_bound groupsN (fun u => by unfold groupsN;first | omega | (split <;> omega)) (trSize u) u (jN _)).1
   have b3 := isum_le b2 i;have b4 := isum_le b2 (i + 1);have b5 := isum_take _ i x h;have b6 := b2 x (List.mem_of_getElem? h);have b7 : isum (l.map (foldR (cntN groupsN))) <= trSizes l := b1.2
   refine ⟨b6,by omega,by omega,by omega⟩)
  have hkb : ((k : Int) == 2) = false := by simpa using hk
  clear hk
  go_enter Tryz.func15,Tryz.ntmps15
  go_upto_region 1 with fail
  rw [<- HW1.out];clear HW1
  go_wp2_with fail
  clear x0 x8 hx1
  go_loopw [5,6] (fun sv iv wr => ∃ i : Nat,i <= l.length /\ iv = .int .i64 (i : Int) /\ sv = .int .i64 (0 + isum ((l.map (foldR (cntN groupsN))).take i)) /\ Hid (Below W1.heap.size W1 wr)) (fun _ iv _ => l.length - (intOf iv).toNat)
  case atStart => exact ⟨0,by omega,rfl,by simp [isum],qhid (Below.refl _ _)⟩
  case round =>
   obtain ⟨i,hi2,rfl,rfl,HB⟩ := hrel;have HBW := qhid (HB1.out.trans (HB.out.mono HB1.out.size));have hb1 := (HB.out.block _ (jS HK1.out)).trans HK1.out;have x0 := jC hb1 0;have x8 := jC hb1 8;have hl1 := jS hb1;simp only [Reg.la,Reg.lb,Reg.lc] at x0 x8;clear hb1
   by_cases hlt : i < l.length
   ·obtain ⟨c,hc⟩ : ∃ c,l[i]? = some c := ⟨_,List.getElem?_eq_getElem hlt⟩;have hgc : (l.map (foldR (cntN groupsN)))[i]? = some ((foldR (cntN groupsN)) c) := by rw [List.getElem?_map,hc];rfl
    have HBD := qhid (HBND.out i ((foldR (cntN groupsN)) c) hgc);have HC := qhid (HIH.out c hc);obtain ⟨k1,s1,lo1,hi1,z1,a1,b1,l1⟩ := c;obtain ⟨g,cp1,lu1,hv1,hg1,hr1,c0,⟨c1,c2,c3,c4⟩,c5,c6,c7,c8,c9,c10⟩ := (HT.out.up HBW.out).get hc;injection hv1 with hv1 _ hv2;subst hv1 hv2;obtain ⟨pp,n1,cq,rfl⟩ := hr1.slice;have HR := qhid (HC.out wr _ _ hr1);generalize (foldR (cntN groupsN)) (.mk k1 s1 lo1 hi1 z1 a1 b1 l1) = v1 at *;obtain ⟨s0,hs0⟩ : ∃ q,q = 0 + isum ((l.map (foldR (cntN groupsN))).take i) := ⟨_,rfl⟩;obtain ⟨s2,hs2⟩ : ∃ q,q = 0 + isum ((l.map (foldR (cntN groupsN))).take (i + 1)) := ⟨_,rfl⟩;rw [<- hs0,<- hs2] at HBD;have HS2 := qhid hs2;rw [<- hs0];obtain ⟨bd0,bd1,bd2,bd3⟩ := HBD.out;clear hr1 hc hs0 hs2 HC hgc
    go_wp2_with fail
    refine HR.out.mono ?_;rintro e w2 ⟨rfl,hb⟩;have HB2 := qhid (HB.out.trans (hb.mono HB.out.size));clear hb HR c0 c1 c2 c3 c4 c5 c6 c7 c8 c9 c10 x0 x8 hl1
    go_wp2_with fail
    go_roundw
    case rel => exact ⟨i + 1,by omega,by go_num,by rw [<- HS2.out];go_num,HB2⟩
    case measure => simp [intOf];omega
   ·obtain rfl : i = l.length := by omega
    have HFIN : Hid (foldR (cntN groupsN) (.mk k s lo hi z a b l) = 0 + isum (l.map (foldR (cntN groupsN)))) := qhid (by rw [foldR,foldL_map];show groupsN _ + isum _ = _;rw [show groupsN (.mk k s lo hi z a b l) = 0 from if_neg HK2.out]);have HFF : Hid (res = 0 + isum ((l.map (foldR (cntN groupsN))).take l.length)) := qhid (by rw [HRES.out,HFIN.out,List.take_of_length_le (by simp)]);rw [show 0 + isum ((l.map (foldR (cntN groupsN))).take l.length) = res from HFF.out.symm]
    go_wp2_with fail
    exact bodyPost_ret (v := .int .i64 res) (by simp [results,Tryz.results15,go_sem]) rfl ⟨rfl,HBW.out⟩
theorem rcount_any : ∀ (n : Nat) (t : Tr) (A : Nat -> Prop) (lv : Value) (w : World),trSize t <= n -> n <= 1099511000000 -> RnAt w A t lv ->
  Calls Tryz.prog 15 #[rnV t lv,.int .i64 2] w fun e w' => e = .returned (.int .i64 (foldR (cntN groupsN) t)) /\ Below w.heap.size w w'
 | 0,t,A,lv,w,h,_,_ => by have := trSize_pos t;omega
 | n + 1,.mk k s lo hi z a b l,A,lv,w,h,hn,ht => by
  rw [trSize] at h;exact rcount_step k s lo hi z a b l A lv w (by omega) ht (fun c i hc X B v h1 => rcount_any n c B v X (by have := trSize_mem (List.mem_of_getElem? hc);omega) (by omega) h1)
theorem rdeep_step (k : Int) (s : W4) (lo hi : Int) (z : Bool) (a b : Nat) (l : List Tr) (A : Nat -> Prop) (lv : Value) (w : World) (hlb : trSizes l <= 1099511000000)
  (ht : RnAt w A (.mk k s lo hi z a b l) lv)
  (ih : ∀ (c : Tr) {i : Nat},l[i]? = some c -> ∀ (X : World) (B : Nat -> Prop) (v : Value),RnAt X B c v -> Calls Tryz.prog 17 #[rnV c v] X fun e w' => e = .returned (.int .i64 ((foldR deepR) c)) /\ Below X.heap.size X w') :
  Calls Tryz.prog 17 #[rnV (.mk k s lo hi z a b l) lv] w fun e w' => e = .returned (.int .i64 ((foldR deepR) (.mk k s lo hi z a b l))) /\ Below w.heap.size w w' := by
 obtain ⟨p,cap,rfl⟩ := ht.slice_len;have HT := qhid ht;have HIH := qhid ih
 have HBND : Hid (∀ (i : Nat) (x : Int),(l.map (foldR deepR))[i]? = some x -> 0 <= x /\ 0 <= maxR ((l.map (foldR deepR)).take i) /\ maxR ((l.map (foldR deepR)).take (i + 1)) = max (maxR ((l.map (foldR deepR)).take i)) x /\ maxR ((l.map (foldR deepR)).take (i + 1)) <= 1099511000000) := qhid (fun i x h => by
  have b2 : ∀ y ∈ l.map (foldR deepR),0 <= y /\ y <= 1099511000000 := fun y hy => by
   obtain ⟨u,hu,rfl⟩ := List.mem_map.1 hy;have h1 := deep_bound u;have h2 := trSize_mem hu;omega
  have b3 := maxR_le ((l.map (foldR deepR)).take i) 1099511000000 (by omega) (fun y hy => (b2 y (List.mem_of_mem_take hy)).2);have b4 := maxR_le ((l.map (foldR deepR)).take (i + 1)) 1099511000000 (by omega) (fun y hy => (b2 y (List.mem_of_mem_take hy)).2)
  exact ⟨(b2 x (List.mem_of_getElem? h)).1,b3.1,maxR_take _ i x h,b4.2⟩)
 have HMX : Hid (0 <= maxR ((l.map (foldR deepR)).take l.length) /\ maxR ((l.map (foldR deepR)).take l.length) <= 1099511000000) := qhid (maxR_le _ _ (by omega) (fun y hy => by
  obtain ⟨u,hu,rfl⟩ := List.mem_map.1 (List.mem_of_mem_take hy);have h1 := deep_bound u;have h2 := trSize_mem hu
  omega))
 have hlen := trSizes_len l;obtain ⟨res,hres⟩ : ∃ r,r = (foldR deepR) (.mk k s lo hi z a b l) := ⟨_,rfl⟩;rw [<- hres];have HRES := qhid hres;obtain ⟨W1,hW1⟩ : ∃ X,X = w.alloc (.cells #[.int .i64 k,.int .u64 s.a,.int .u64 s.b,.int .u64 s.c,.int .u64 s.d,.int .i64 lo,.int .i64 hi,.bool z,(.slice p l.length cap),.int .i64 (a : Int),.int .i64 (b : Int)] 32) := ⟨_,rfl⟩;have HB1 : Hid (Below w.heap.size w W1) := qhid (by rw [hW1];exact below1 w _);have HK1 : Hid (W1.heap[w.heap.size]? = some (.cells #[.int .i64 k,.int .u64 s.a,.int .u64 s.b,.int .u64 s.c,.int .u64 s.d,.int .i64 lo,.int .i64 hi,.bool z,(.slice p l.length cap),.int .i64 (a : Int),.int .i64 (b : Int)] 32)) := qhid (by rw [hW1];exact heap_new w _);have HW1 := qhid hW1;change Calls _ _ #[.agg #[.int .i64 k,.int .u64 s.a,.int .u64 s.b,.int .u64 s.c,.int .u64 s.d,.int .i64 lo,.int .i64 hi,.bool z,(.slice p l.length cap),.int .i64 (a : Int),.int .i64 (b : Int)]] _ _;have x0 := jC HK1.out 0;have x8 := jC HK1.out 8;have hx1 := jS HK1.out;simp only [Reg.la,Reg.lb,Reg.lc] at x0 x8;clear ht ih hres hW1
 go_enter Tryz.func17,Tryz.ntmps17
 go_upto_region 1 with fail
 rw [<- HW1.out];clear HW1
 go_wp2_with fail
 clear x0 x8 hx1
 go_loopw [3,4] (fun sv iv wr => ∃ i : Nat,i <= l.length /\ iv = .int .i64 (i : Int) /\ sv = .int .i64 (maxR ((l.map (foldR deepR)).take i)) /\ Hid (Below W1.heap.size W1 wr)) (fun _ iv _ => l.length - (intOf iv).toNat)
 case atStart => exact ⟨0,by omega,rfl,by simp [maxR],qhid (Below.refl _ _)⟩
 case round =>
  obtain ⟨i,hi2,rfl,rfl,HB⟩ := hrel;have HBW := qhid (HB1.out.trans (HB.out.mono HB1.out.size));have hb1 := (HB.out.block _ (jS HK1.out)).trans HK1.out;have x0 := jC hb1 0;have x8 := jC hb1 8;have hl1 := jS hb1;simp only [Reg.la,Reg.lb,Reg.lc] at x0 x8;clear hb1
  by_cases hlt : i < l.length
  ·obtain ⟨c,hc⟩ : ∃ c,l[i]? = some c := ⟨_,List.getElem?_eq_getElem hlt⟩;have hgc : (l.map (foldR deepR))[i]? = some ((foldR deepR) c) := by rw [List.getElem?_map,hc];rfl
   have HBD := qhid (HBND.out i ((foldR deepR) c) hgc);have HC := qhid (HIH.out c hc);obtain ⟨k1,s1,lo1,hi1,z1,a1,b1,l1⟩ := c;obtain ⟨g,cp1,lu1,hv1,hg1,hr1,c0,⟨c1,c2,c3,c4⟩,c5,c6,c7,c8,c9,c10⟩ := (HT.out.up HBW.out).get hc;injection hv1 with hv1 _ hv2;subst hv1 hv2;obtain ⟨pp,n1,cq,rfl⟩ := hr1.slice;have HR := qhid (HC.out wr _ _ hr1);generalize (foldR deepR) (.mk k1 s1 lo1 hi1 z1 a1 b1 l1) = v1 at *;obtain ⟨s0,hs0⟩ : ∃ q,q = maxR ((l.map (foldR deepR)).take i) := ⟨_,rfl⟩;obtain ⟨s2,hs2⟩ : ∃ q,q = maxR ((l.map (foldR deepR)).take (i + 1)) := ⟨_,rfl⟩;rw [<- hs0,<- hs2] at HBD;have HS2 := qhid hs2;rw [<- hs0];obtain ⟨bd0,bd1,bd2,bd3⟩ := HBD.out;clear hr1 hc hs0 hs2 HC hgc
   go_wp2_with fail
   refine HR.out.mono ?_;rintro e w2 ⟨rfl,hb⟩;have HB2 := qhid (HB.out.trans (hb.mono HB.out.size));clear hb HR c0 c1 c2 c3 c4 c5 c6 c7 c8 c9 c10 x0 x8 hl1
   go_wp2_with fail
   go_roundw
   case rel => exact ⟨i + 1,by omega,by go_num,by rw [<- HS2.out];go_num,HB2⟩
   case measure => simp [intOf];omega
  ·obtain rfl : i = l.length := by omega
   obtain ⟨mx,hmx⟩ : ∃ q,q = maxR ((l.map (foldR deepR)).take l.length) := ⟨_,rfl⟩;have HM := HMX.out;rw [<- hmx] at HM ⊢;have HF0 : Hid (res = if k = 2 \/ k = 3 then mx + 1 else mx) := qhid (by rw [HRES.out,foldR,foldL_map,hmx,List.take_of_length_le (by simp)];rfl);clear hmx;obtain ⟨hm1,hm2⟩ := HM
   by_cases hk2 : k = 2
   ·subst hk2;have HF := qhid (HF0.out.trans (if_pos (.inl rfl)))
    go_wp2_with fail
    exact bodyPost_ret (v := .int .i64 (mx + 1)) (by simp [results,Tryz.results17,go_sem]) rfl ⟨by rw [HF.out],HBW.out⟩
   ·have hb2 : ((k : Int) == 2) = false := by simpa using hk2
    by_cases hk3 : k = 3
    ·subst hk3;have HF := qhid (HF0.out.trans (if_pos (.inr rfl)))
     go_wp2_with fail
     exact bodyPost_ret (v := .int .i64 (mx + 1)) (by simp [results,Tryz.results17,go_sem]) rfl ⟨by rw [HF.out],HBW.out⟩
    ·have hb3 : ((k : Int) == 3) = false := by simpa using hk3
     have HF := qhid (HF0.out.trans (if_neg (by omega)));clear hk2 hk3
     go_wp2_with fail
     exact bodyPost_ret (v := .int .i64 mx) (by simp [results,Tryz.results17,go_sem]) rfl ⟨by rw [HF.out],HBW.out⟩
theorem rdeep_any : ∀ (n : Nat) (t : Tr) (A : Nat -> Prop) (lv : Value) (w : World),trSize t <= n -> n <= 1099511000000 -> RnAt w A t lv ->
  Calls Tryz.prog 17 #[rnV t lv] w fun e w' => e = .returned (.int .i64 (foldR deepR t)) /\ Below w.heap.size w w'
 | 0,t,A,lv,w,h,_,_ => by have := trSize_pos t;omega
 | n + 1,.mk k s lo hi z a b l,A,lv,w,h,hn,ht => by
  rw [trSize] at h;exact rdeep_step k s lo hi z a b l A lv w (by omega) ht (fun c i hc X B v h1 => rdeep_any n c B v X (by have := trSize_mem (List.mem_of_getElem? hc);omega) (by omega) h1)
end
end Go.Proofs.YtlmcgbieobklhaaGreatDoor
