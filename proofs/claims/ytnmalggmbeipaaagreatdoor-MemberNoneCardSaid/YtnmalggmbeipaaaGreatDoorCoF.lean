/- A part of the proof. -/
import Derived.Test.YtnmalggmbeipaaaGreatDoorCoB
import Derived.Test.YtnmalggmbeipaaaGreatDoorCoW
set_option maxRecDepth 100000
set_option maxHeartbeats 16000000
namespace Go.Proofs.YtnmalggmbeipaaaGreatDoor
section
open Go Go.RowKit Go.Shelf
attribute [local go_sem] Oper.semAt_some
def CosAt (w : World) (v : Value) (cs : List Co) : Prop := ∃ (p : Option Addr) (cap b : Nat) (qs : Nat -> Nat),v = .slice p cs.length cap /\
 (∀ j,j < cs.length -> p = some ⟨b,0,none⟩ /\ b < w.heap.size /\ w.cell? ⟨b,j,none⟩ = some (.pointer (some ⟨qs j,0,none⟩))) /\ ∀ j c,cs[j]? = some c -> CoAt w c (.pointer (some ⟨qs j,0,none⟩))
theorem CosAt.up {w w' : World} {v : Value} {cs : List Co} (h : CosAt w v cs) (hb : Below w.heap.size w w') : CosAt w' v cs := by
 obtain ⟨p,cap,b,qs,h1,h2,h3⟩ := h;exact ⟨p,cap,b,qs,h1,fun j hj => by obtain ⟨g1,g2,g3⟩ := h2 j hj;exact ⟨g1,Nat.lt_of_lt_of_le g2 hb.size,(hb.cell (p := ⟨b,j,none⟩) g2).trans g3⟩,fun j c hc => (h3 j c hc).up hb⟩
def JoinC (fn : FuncId) (caps : Array Value) (j : Co -> Co -> Co) (w0 : World) : Prop :=
 ∀ (X : World),Below w0.heap.size w0 X -> ∀ (c b : Co) (vc vb : Value),c ≠ .nil -> CoAt X c vc -> CoAt X b vb -> Calls Tryz.prog fn (#[vc,vb] ++ caps) X fun e w' => ∃ v,e = .returned v /\ CoAt w' (j c b) v /\ Below X.heap.size X w'
theorem co_own {β : Type} (B eb : Nat) (t : TypeId) (f : β -> Co) : OwnFrom B (fun s W => ∃ v,Boxed W eb t v /\ CoAt W (f s) v) := by
 rintro s X Y row ⟨v,hv,hc⟩ hg hr;refine ⟨v,hv.kept hg (fun e' => ?_),hc.kept hg (fun r e => by obtain ⟨_,o,ho,hc⟩ := hr r e;exact ⟨o,ho,.other hc⟩)⟩;obtain ⟨_,o,ho,hc⟩ := hr eb e'.symm;rw [show X.heap[eb]? = _ from hv] at ho
 cases ho
 cases hc
theorem downI_foldl {α : Type} (cs : List Co) (val : α -> Nat) (f : Co -> Co -> Co) (b : Co) (g : α -> Co) (hg : ∀ x,cs[val x]? = some (g x)) (ys : List α) (h : ys.map val = downI cs.length cs.length) : (ys.map g).foldl (fun b c => f c b) b = cs.foldr f b := by
 have e : ys.map g = cs.reverse := by
  have hl : ys.length = cs.length := by have := congrArg List.length h;rwa [List.length_map,downI_length] at this
  apply List.ext_getElem
  ·simp [hl]
  ·intro i h1 h2;simp at h1 h2
   have hv : val ys[i] = cs.length - 1 - i := by
    have := congrArg (·[i]?) h;simp [downI,h1,h2] at this;exact this
   have := hg ys[i];rw [hv,List.getElem?_eq_getElem (by omega)] at this;simp;exact (Option.some.inj this).symm
 rw [e,List.foldl_reverse]
theorem cfold_any (fn : FuncId) (caps : Array Value) (j : Co -> Co -> Co) (cs : List Co) (bh : Co) (vl vbh : Value) (w : World) (hcf : ∀ args W,(callFunc fn args).run Tryz.prog W = .ok (.enter fn args) W)
  (hcn : ∀ c ∈ cs,c ≠ .nil) (hlen : cs.length <= 1099511627776) (hl : CosAt w vl cs) (hb : CoAt w bh vbh) (hj : JoinC fn caps j w) :
  Calls Tryz.prog 103 #[vl,vbh,.func (.func fn) #[] caps] w fun e w' => ∃ v,e = .returned v /\ CoAt w' (cs.foldr j bh) v /\ Below w.heap.size w w' := by
 obtain ⟨p,cap,b,qs,rfl,h1,h2⟩ := hl;obtain ⟨pb,rfl⟩ := hb.ptr;refine (callsIn_wide (n := 40)).1 ?_;refine callsIn_of_wp_marks Tryz.func103 rfl trivial ?_ rfl;simp only [Tryz.ntmps103,List.size_toArray,List.length_cons,List.length_nil,Nat.reduceAdd,Nat.reduceSub,Array.replicate_succ,Array.replicate_zero,List.push_toArray,List.append_toArray,List.nil_append,List.cons_append]
 gi_wp2_with fail
 refine ⟨trivial,?_⟩;refine (cback_in Fence.wide _ trivial rfl p cs.length cap _).mono ?_;rintro e W2 ⟨rfl,hW2⟩;obtain ⟨W1,hW1⟩ : ∃ X,X = (w.alloc (.cells #[.pointer pb] 23)).alloc (.cells #[.func (.func fn) #[] caps] 187) := ⟨_,rfl⟩;have z1 : W1.heap.size = w.heap.size + 2 := by rw [hW1,World.size_alloc,World.size_alloc]
 have b1 : Below w.heap.size w W1 := by rw [hW1];exact below2 w _ _
 have x1 : Boxed W1 w.heap.size 23 (.pointer pb) := by rw [hW1];exact (Boxed.new w 23 _).alloc _
 have x2 : Boxed W1 (w.heap.size + 1) 187 (.func (.func fn) #[] caps) := by
  have h := Boxed.new (w.alloc (.cells #[.pointer pb] 23)) 187 (.func (.func fn) #[] caps);rw [World.size_alloc] at h;rw [hW1];exact h
 rw [<- hW1] at hW2 ⊢;have b2 : Below w.heap.size w W2 := b1.trans (by rw [hW2];exact (below1 W1 _).mono b1.size);have y1 : Boxed W2 w.heap.size 23 (.pointer pb) := by rw [hW2];exact x1.alloc _
 have y2 : Boxed W2 (w.heap.size + 1) 187 (.func (.func fn) #[] caps) := by rw [hW2];exact x2.alloc _
 have y3 : Boxed W2 W1.heap.size 152 (.slice p cs.length cap) := by rw [hW2];exact Boxed.new W1 152 _
 have z2 : W2.heap.size = w.heap.size + 3 := by rw [hW2,World.size_alloc,z1]
 rw [z1] at y3 ⊢;obtain ⟨eb,heb⟩ : ∃ eb,eb = w.heap.size := ⟨_,rfl⟩;obtain ⟨jb,hjb⟩ : ∃ jb,jb = w.heap.size + 1 := ⟨_,rfl⟩;obtain ⟨Bs,hBs⟩ : ∃ Bs,Bs = w.heap.size + 2 := ⟨_,rfl⟩
 obtain ⟨cb,hcb⟩ : ∃ cb,cb < w.heap.size + 1 /\ ∀ i,i < cs.length -> p = some ⟨cb,0,none⟩ /\ W2.cell? ⟨cb,i,none⟩ = some (.pointer (some ⟨qs i,0,none⟩)) /\ cb < w.heap.size := by
  rcases Nat.eq_zero_or_pos cs.length with h | h
  ·exact ⟨w.heap.size,by omega,fun i hi => by omega⟩
  ·obtain ⟨g1,g2,g3⟩ := h1 0 h;exact ⟨b,by omega,fun i hi => by obtain ⟨k1,k2,k3⟩ := h1 i hi;exact ⟨k1,(b2.cell (p := ⟨b,i,none⟩) k2).trans k3,k2⟩⟩
 obtain ⟨hcb1,hcb2⟩ := hcb;have hcbn : 0 < cs.length -> cb < w.heap.size := fun h => (hcb2 0 h).2.2
 have B2 := qhid b2;have Y1 := qhid y1;have Y2 := qhid y2;have Y3 := qhid y3;have C2 := qhid (hb.up b2);have HH2 := qhid h2;have HEB := qhid heb;have HJB := qhid hjb;have HBS := qhid hBs;have HZ2 := qhid z2;rw [<- heb] at Y1;rw [<- hjb] at Y2;rw [<- hBs] at Y3;rw [<- hBs];have hf1 : (w.alloc (.cells #[.pointer pb] 23)).heap.size = jb := by rw [World.size_alloc,hjb]
 clear hW1 hW2 z1 b1 x1 x2 b2 y1 y2 y3 z2 h1 h2 hb;have e0 : w.heap.size + 1 = jb := hjb.symm;have e1 : w.heap.size = eb := heb.symm;have HE0 := qhid e0;have HE1 := qhid e1
 have hz : eb < W2.heap.size /\ jb < W2.heap.size /\ Bs < W2.heap.size /\ cb < W2.heap.size /\ eb ≠ Bs /\ (0 < cs.length -> eb ≠ cb) := by
  refine ⟨by rw [HZ2.out];omega,by rw [HZ2.out];omega,by rw [HZ2.out];omega,by rw [HZ2.out];omega,by omega,fun h => by have := hcbn h;omega⟩
 obtain ⟨hz1,hz2,hz3,hz4,hz5,hz6⟩ := hz;clear e0 e1 heb hjb hBs
 gi_wp2_with fail
 rw [HE0.out,HE1.out];have hro : (Fence.wide).round = none := rfl;have hcbk : ∀ i,i < cs.length -> p = some ⟨cb,0,none⟩ /\ W2.cell? ⟨cb,i,none⟩ = some (.pointer (some ⟨qs i,0,none⟩)) := fun i hi => ⟨(hcb2 i hi).1,(hcb2 i hi).2.1⟩
 refine wpIn_rangeFunc_ownG hro (by omega) (gf := 199) (lb := #[.pointer (some ⟨Bs,0,none⟩)]) rfl trivial (enters_of Tryz.func199 (by kernel_rfl) rfl)
  (cback_stops (α := Fin cs.length) Fin.val (fun y => #[.int .i64 (y.val : Int),.pointer (some ⟨qs y.val,0,none⟩)]) Fence.wide _ trivial rfl (by omega) Bs cb p cap cs.length qs hlen (fun i hi => ⟨⟨i,hi⟩,rfl,rfl⟩) W2 hz3 hz4 Y3.out.cell hcbk)
  (fun h k => h.trans k) (keepB_b hz3 hz4) (Below.refl _ _) (fun _ => rfl)
  (fun pre W => (∃ v,Boxed W eb 23 v /\ CoAt W ((pre.map (fun x : Fin cs.length => cs[x])).foldl (fun b c => j c b) bh) v) /\ (Boxed W jb 187 (.func (.func fn) #[] caps) /\ (Below w.heap.size w W /\ Boxed W Bs 152 (.slice p cs.length cap))))
  (fun _ _ _ => False)
  ((co_own _ eb 23 (fun pre : List (Fin cs.length) => (pre.map (fun x : Fin cs.length => cs[x])).foldl (fun b c => j c b) bh)).and (((boxed_own jb 187 (fun _ : List (Fin cs.length) => .func (.func fn) #[] caps)).from _).and ((ownFrom_below (jN _) (by rw [HZ2.out];omega)).and ((boxed_own Bs 152 (fun _ : List (Fin cs.length) => .slice p cs.length cap)).from _))))
  (fun _ _ _ _ _ hs _ _ => hs)
  ⟨⟨_,Y1.out,C2.out⟩,Y2.out,B2.out,Y3.out⟩
  (fun y => { tmps := List.toArray (.slice p cs.length cap :: .pointer pb :: .func (.func fn) #[] caps :: undef :: .pointer (some ⟨eb,0,none⟩) :: .pointer (some ⟨jb,0,none⟩) :: .pointer none :: undef :: .pointer (some ⟨qs y.val,0,none⟩) :: .slice p cs.length cap :: .func (.func 199) #[] #[.pointer (some ⟨Bs,0,none⟩)] :: .int .i64 (y.val : Int) :: .pointer (some ⟨qs y.val,0,none⟩) :: undef :: undef :: undef :: undef :: undef :: []),defers := [] }) ?assign ?body ?done ?stop
 case assign =>
  intro l y W K hK
  gi_wp2
  exact hK
 case stop =>
  rintro D c pre W _ _ h _;exact h.elim
 case body =>
  rintro l pre y W ⟨⟨v,hv,hc⟩,hjb,hB,hBx⟩ hpl;have hvc := hv.cell;have hvf := hv.frozen;have hjc := hjb.cell;have HC := qhid (hj W hB cs[y] _ _ v (hcn _ (List.getElem_mem _)) ((HH2.out y.val cs[y] (List.getElem?_eq_getElem y.isLt)).up hB) hc);have H := qhid (And.intro hv (And.intro hjb (And.intro hB hBx)));clear hv hc hjb hB hBx
  gi_wp2_with fail
  refine ⟨trivial,?_⟩;refine (CallsIn.inRound l (callsIn_wide.2 HC.out)).mono ?_;rintro e W3 ⟨v3,rfl,hc3,hb3⟩;obtain ⟨hv,hjb,hB,hBx⟩ := H.out;have g3 := grown_below none hb3;have hv3 := hv.kept g3 (by simp);have hvc3 := hv3.cell;have hvf3 := hv3.frozen;obtain ⟨p3,rfl⟩ := hc3.ptr;have HC3 := qhid hc3;have HB3 := qhid hb3;have HG3 := qhid g3;have HV3 := qhid hv3;clear hvc hvf hjc hc3 hb3 hv hjb hB hBx hv3 g3
  gi_wp2_with fail
  obtain ⟨hv,hjb,hB,hBx⟩ := H.out;have s4 := grownBy_setCell' W3 eb (.pointer p3);have jb3 := (hjb.kept HG3.out (by simp)).kept s4 (fun e => ne_box (hjb.kept HG3.out (by simp)) HV3.out (by decide) (Option.some.inj e));have bx3 := (hBx.kept HG3.out (by simp)).kept s4 (fun e => hz5 (Option.some.inj e).symm);have bw3 : Below w.heap.size w W3 := hB.trans (HB3.out.mono hB.size);refine ⟨(KeepsFrom.of_grownBy HG3.out (fun j e => by cases e)).trans ((KeepsOthers.setCell _ _ _).from _),⟨(show _ = _ from bx3).trans (show _ = _ from hBx).symm,?_⟩,⟨_,HV3.out.set _,?_⟩,jb3,bw3.setCell (p := ⟨eb,0,none⟩) (by show _ <= eb;rw [HEB.out];exact jN _) _,bx3⟩
  ·have hcl : cb < W.heap.size := Nat.lt_of_lt_of_le (hcbn (by omega)) hB.size;exact (s4.block cb (Nat.lt_of_lt_of_le hcl HB3.out.size) (fun e => hz6 (by omega) (Option.some.inj e).symm)).trans (HB3.out.block cb hcl)
  ·rw [List.map_append,List.foldl_append];exact HC3.out.kept s4 (fun r e => by cases e;exact ⟨_,HV3.out,NotCo.box (by decide)⟩)
 case done =>
  rintro D ys W hD hys ⟨⟨v,hv,hc⟩,hjb,hB,hBx⟩ hK;have hvc := hv.cell;rw [downI_foldl cs Fin.val j bh (fun x : Fin cs.length => cs[x]) (fun x => List.getElem?_eq_getElem x.isLt) ys hys] at hc;have H := qhid (And.intro hc (And.intro hB hK));clear hv hc hjb hB hBx hK hys
  gi_wp2
  obtain ⟨hc,hB,hK⟩ := H.out;refine ⟨by simp,.inl ⟨_,_,rfl,run_takeDeferred hK,?_⟩⟩;exact ⟨v,(results_tmp (t := 6) rfl _ _ _).trans rfl,v,rfl,hc.kept (grownBy_putObj' _ D (.deferred none)) (fun r e => by cases e;exact ⟨_,hK,.other rfl⟩),hB.grown (grownBy_putObj' _ D _) (Nat.le_trans (jN _) hB.size) (fun k e => by cases e;have := HZ2.out;omega)⟩
end
end Go.Proofs.YtnmalggmbeipaaaGreatDoor
