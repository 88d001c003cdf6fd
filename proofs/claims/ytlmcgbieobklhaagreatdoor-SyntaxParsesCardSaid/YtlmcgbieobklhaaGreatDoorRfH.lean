/- A part of the proof. -/
import Derived.Test.YtlmcgbieobklhaaGreatDoorRfG
import Derived.Test.YtlmcgbieobklhaaGreatDoorTc
import Derived.Deep.DeepCutAuto
set_option maxRecDepth 100000
set_option maxHeartbeats 16000000
namespace Go.Proofs.YtlmcgbieobklhaaGreatDoor
open Go Go.RowKit
attribute [local go_sem ↓] Go.wp_at_zero Go.wp_at_succ
attribute [local go_sem] eq4
theorem uni2_mem (t u : W4) (n : Nat) : (uni2 t u).mem n = (t.mem n || u.mem n) := memb_or _ _ _ _ _ _ _ _ n
theorem uni2_no {t : W4} (ht : t.fit) : uni2 noW t = t := W4.ext' (uni2_fit _ _) ht fun n _ => by rw [uni2_mem,noW_mem,Bool.false_or]
structure RcInv (s : ByteArray) (R : W4 × Int × Nat) (fst : Bool) (t : W4) (i : Nat) : Prop where
 fit : t.fit
 le : i <= s.size
 one : fst = true -> t = noW /\ R = clsFrom s i
 more : fst = false -> ∃ n,ClsInv s R n t 0 i
theorem RcInv.step {s : ByteArray} {R : W4 × Int × Nat} {fst : Bool} {t : W4} {i : Nat} (h : RcInv s R fst t i) (hg : fst = true \/ bAt s i ≠ 93) : ∃ n,ClsInv s R n (uni2 t (itemR s i).1) (itemR s i).2.1 (itemR s i).2.2 := by
 cases fst with
 | true =>
  obtain ⟨h1,h2⟩ := h.one rfl;subst h1 h2;refine ⟨s.size + 2,?_⟩;rw [uni2_no (itemR_set h.le).fit];exact ClsInv.start h.le
 | false =>
  obtain ⟨n,hn⟩ := h.more rfl;exact ⟨n - 1,(hn.next (hg.resolve_left (by decide))).2⟩
theorem RcInv.bad {s : ByteArray} {R : W4 × Int × Nat} {fst : Bool} {t x : W4} {i j : Nat} {c : Int} (h : RcInv s R fst t i) (hg : fst = true \/ bAt s i ≠ 93) (hi : itemR s i = (x,c,j)) (he : c ≠ 0) : R = (noW,c,j) := by
 obtain ⟨n,hn⟩ := h.step hg;rw [hi] at hn;exact hn.bad he
theorem RcInv.on {s : ByteArray} {R : W4 × Int × Nat} {fst : Bool} {t x : W4} {i j : Nat} (h : RcInv s R fst t i) (hg : fst = true \/ bAt s i ≠ 93) (hi : itemR s i = (x,0,j)) : RcInv s R false (uni2 t x) j /\ i < j := by
 obtain ⟨n,hn⟩ := h.step hg;have hs := itemR_set h.le;rw [hi] at hn hs;exact ⟨⟨hn.fit,hn.le,(fun e => by cases e),fun _ => ⟨n,hn⟩⟩,hs.on rfl⟩
theorem RcInv.done {s : ByteArray} {R : W4 × Int × Nat} {t : W4} {i : Nat} (h : RcInv s R false t i) (h93 : bAt s i = 93) : R = (t,0,i + 1) := by
 obtain ⟨n,hn⟩ := h.more rfl;exact hn.done h93
theorem OwnEnd.same {w w' : World} {b : Nat} {x y : Int} (h : OwnEnd w b x y) (e : w'.heap[b]? = w.heap[b]?) (hs : w.heap.size <= w'.heap.size) : OwnEnd w' b x y := by
 have c : ∀ o,w'.cell? ⟨b,o,none⟩ = w.cell? ⟨b,o,none⟩ := fun o => World.cell?_of_block (w := w) (a := ⟨b,o,none⟩) e
 have f : ∀ o,w'.frozen? ⟨b,o,none⟩ = w.frozen? ⟨b,o,none⟩ := fun o => World.frozen?_of_block (w := w) (a := ⟨b,o,none⟩) e
 exact ⟨⟨(c 0).trans h.at_.1,(c 1).trans h.at_.2⟩,⟨(f 0).trans h.free.1,(f 1).trans h.free.2⟩,Nat.lt_of_lt_of_le h.lt hs⟩
abbrev bsOb (f : Nat -> Bool) : Obj := .cells (bl f) 4
abbrev enOb (j : Nat) (c : Int) : Obj := .cells #[.int .i64 (j : Int),.int .i64 c] 123
structure ClW (w X : World) (f : Nat -> Bool) : Prop where
 st : OwnSet X w.heap.size noW
 en : OwnEnd X (w.heap.size + 1) 0 0
 on : X.heap[w.heap.size + 1 + 1]? = some (bsOb f)
 bel : Below w.heap.size w X
theorem ClW.below {w X Y : World} {f : Nat -> Bool} (h : ClW w X f) (hb : Below X.heap.size X Y) : ClW w Y f := ⟨h.st.below hb,h.en.below hb,below_kept hb h.on,h.bel.trans (hb.mono h.bel.size)⟩
theorem ClW.lt {w X : World} {f : Nat -> Bool} (h : ClW w X f) : w.heap.size + 1 + 1 < X.heap.size := jS h.on
theorem ClW.cell {w X : World} {f : Nat -> Bool} (h : ClW w X f) (m : Nat) (hm : m < 256) {v : Bool} (hv : f m = v) :
  X.cell? ⟨w.heap.size + 1 + 1,m,none⟩ = some (.bool v) /\ X.frozen? ⟨w.heap.size + 1 + 1,m,none⟩ = false /\ w.heap.size + 1 + 1 < X.heap.size :=
 ⟨by rw [<- hv];exact (jC h.on m).trans (bl_at _ m hm),jU h.on m,h.lt⟩
theorem ClW.set {w X : World} {f f' : Nat -> Bool} (h : ClW w X f) (m : Nat) (v : Bool) (hf : ∀ i,i < 256 -> f' i = if i = m then v else f i) : ClW w (X.setCell ⟨w.heap.size + 1 + 1,m,none⟩ (.bool v)) f' := by
 have hs : X.heap.size <= (X.setCell ⟨w.heap.size + 1 + 1,m,none⟩ (.bool v)).heap.size := by simp [World.setCell]
 refine ⟨h.st.same (Below.heap_setCell _ _ _ _ (by simp;omega)) hs,h.en.same (Below.heap_setCell _ _ _ _ (by simp)) hs,?_,h.bel.setCell (by simp;omega) _⟩;rw [Joins.block_setCell h.on,bl_set];congr 2;exact bl_congr fun i hi => (hf i hi).symm
theorem ClW.congr {w X : World} {f f' : Nat -> Bool} (h : ClW w X f) (hf : ∀ i,i < 256 -> f' i = f i) : ClW w X f' :=
 ⟨h.st,h.en,by rw [h.on];show some (Obj.cells (bl f) _) = some (Obj.cells (bl f') _);rw [bl_congr hf],h.bel⟩
theorem ClW.ret {w X : World} {f : Nat -> Bool} (h : ClW w X f) (t : W4) (x y : Int) : Below w.heap.size w (endPut (setPut X w.heap.size t) (w.heap.size + 1) x y) :=
 ((below_set4 h.bel (jN _) _ _ _ _).setCell (by simp) _).setCell (by simp) _
theorem clw_start (w : World) : ClW w (((w.alloc setObj).alloc endOb).alloc (bsOb fun _ => false)) (fun _ => false) := by
 obtain ⟨h1,h2,h3,h4⟩ := two_is w _ rfl;refine ⟨h1.below (below1 _ _),h2.below (below1 _ _),?_,h3.trans ((below1 _ _).mono h3.size)⟩;have h := heap_new ((w.alloc setObj).alloc endOb) (bsOb fun _ => false);rw [h4] at h;exact h
theorem set_kept {X : World} {b g m : Nat} {o : Obj} (h : X.heap[b]? = some o) (hne : b ≠ g) (v : Value) : (X.setCell ⟨g,m,none⟩ v).heap[b]? = some o := by
 rw [Below.heap_setCell _ _ _ _ (by simpa using hne)];exact h
structure ItB (X : World) (b : Nat) (t : W4) (j : Nat) (c : Int) : Prop where
 set : X.heap[b]? = some (setOb t)
 en : X.heap[b + 1]? = some (enOb j c)
theorem ItB.new (X : World) (t : W4) (j : Nat) (c : Int) : ItB ((X.alloc (setOb t)).alloc (enOb j c)) X.heap.size t j c := by
 refine ⟨below_kept (below1 _ _) (heap_new _ _),?_⟩;have h := heap_new (X.alloc (setOb t)) (enOb j c);rw [World.size_alloc] at h;exact h
theorem ItB.below {X Y : World} {b : Nat} {t : W4} {j : Nat} {c : Int} (h : ItB X b t j c) (hb : Below X.heap.size X Y) : ItB Y b t j c := ⟨below_kept hb h.set,below_kept hb h.en⟩
theorem ItB.put {X : World} {b g m : Nat} {t : W4} {j : Nat} {c : Int} (h : ItB X b t j c) (hb : g < b) (v : Value) : ItB (X.setCell ⟨g,m,none⟩ v) b t j c := ⟨set_kept h.set (by omega) v,set_kept h.en (by omega) v⟩
theorem end_of_block {W : World} {b j : Nat} {c : Int} (h : W.heap[b]? = some (enOb j c)) : W.cell? ⟨b,0,none⟩ = some (.int .i64 (j : Int)) /\ W.cell? ⟨b,1,none⟩ = some (.int .i64 c) /\ b < W.heap.size :=
 ⟨jC h 0,jC h 1,jS h⟩
structure ErS (w : World) (b : Nat) (j : Nat) (c : Int) (listed : Array Bool) (X : World) : Prop where
 st : OwnSet X w.heap.size noW
 en : OwnEnd X (w.heap.size + 1) (if listed.getD 3 false = true then (j : Int) else 0) (if listed.getD 3 false = true then c else 0)
 it : OwnEnd X b j c
 ne : w.heap.size + 1 + 1 < b
 bel : Below w.heap.size w X
theorem ErS.same {w : World} {b j : Nat} {c : Int} {listed : Array Bool} {X : World} {i : Nat} (h : ErS w b j c listed X) (h3 : i ≠ 3) : ErS w b j c (listed.setIfInBounds i true) X := by
 refine ⟨h.st,?_,h.it,h.ne,h.bel⟩;rw [getD_set_ne false h3];exact h.en
theorem ErS.put2 {w : World} {b j : Nat} {c : Int} {listed : Array Bool} {X : World} (h : ErS w b j c listed X) : ErS w b j c (listed.setIfInBounds 2 true) (setPut X w.heap.size noW) := by
 have hne := h.ne;refine ⟨h.st.put noW,?_,h.it.set_ (by omega),h.ne,below_set4 h.bel (jN _) _ _ _ _⟩;rw [getD_set_ne false (by decide)];exact h.en.set_ (by omega)
theorem ErS.put3 {w : World} {b j : Nat} {c : Int} {listed : Array Bool} {X : World} (h : ErS w b j c listed X) (hin : 3 < listed.size) : ErS w b j c (listed.setIfInBounds 3 true) (endPut X (w.heap.size + 1) j c) := by
 have hne := h.ne;refine ⟨h.st.end_ (by omega),?_,h.it.other (by omega),h.ne,(h.bel.setCell (by simp) _).setCell (by simp) _⟩;rw [if_pos (Reg.set_self hin),if_pos (Reg.set_self hin)];exact h.en.put j c
def erTold (j : Nat) (c : Int) : Nat -> Value
 | 0 => .agg #[.int .u64 0,.int .u64 0,.int .u64 0,.int .u64 0]
 | 1 => .agg #[.int .i64 (j : Int),.int .i64 c]
 | _ => undef
theorem refclass_any (s : ByteArray) (k : Nat) (hk : k < s.size) (hs : s.size <= 1099511627776) (w : World) :
  Calls Tryz.prog 91 #[.string s,.int .i64 (k : Int)] w fun e w' => e = .returned (escAns (classR s k)) /\ Below w.heap.size w w' := by
 have hmk : ∀ w,(Instr.makeSlice 193 (.int .i64 256) (.int .i64 256)).run Tryz.prog w = .ok (.slice (some ⟨w.heap.size,0,none⟩) 256 256) (w.alloc (bsOb fun _ => false)) := fun _ => by kernel_rfl
 obtain ⟨nt,hnt⟩ : ∃ nt,nt = decide (bAt s (k + 1) = 94) := ⟨_,rfl⟩;obtain ⟨i0,hi0⟩ : ∃ i0,i0 = (if nt = true then k + 2 else k + 1) := ⟨_,rfl⟩
 have hi0s : i0 <= s.size := by
  cases nt
  ·simp at hi0;omega
  ·have h := in_of_bAt (of_decide_eq_true hnt.symm) (by omega);simp at hi0;omega
 have HCL : Hid (classR s k = if nt = true then (if (clsFrom s i0).2.1 ≠ 0 then (noW,(clsFrom s i0).2.1,(clsFrom s i0).2.2) else (notW (clsFrom s i0).1,0,(clsFrom s i0).2.2)) else clsFrom s i0) := qhid (by
  unfold classR
  by_cases h : bAt s (k + 1) = 94
  ·rw [if_pos h];simp [h] at hnt;subst hnt;simp at hi0;subst hi0;rfl
  ·rw [if_neg h];simp [h] at hnt;subst hnt;simp at hi0;subst hi0;rfl)
 have hR0 : RcInv s (clsFrom s i0) true noW i0 := ⟨noW_fit,hi0s,fun _ => ⟨rfl,rfl⟩,fun h => by cases h⟩;obtain ⟨R,hR⟩ : ∃ R,R = clsFrom s i0 := ⟨_,rfl⟩;rw [<- hR] at HCL hR0;have HR0 := qhid hR0;have HW0 := qhid (clw_start w);have HI0 := qhid hi0;clear hR hR0 hi0;obtain ⟨k1,hk1⟩ : ∃ k1,k1 = k + 1 := ⟨_,rfl⟩;have ek1 : IntKind.i64.wrap ((k : Int) + 1) = (k1 : Int) := by simp [IntKind.wrap,IntKind.signed,IntKind.bits];omega
 have ek2 : (k : Int) + 1 = (k1 : Int) := by omega
 have HK1 := qhid hk1;rw [<- hk1] at hnt;have HNT := qhid hnt;clear hnt hk1
 go_enter Tryz.func91,Tryz.ntmps91
 go_upto_region 2 with fail
 go_cut [7] (fun v wx => v = .bool nt /\ wx = (w.alloc setObj).alloc endOb)
 case first =>
  by_cases hlt : k1 < s.size
  ·have d1 : decide (k1 < s.size) = true := jT hlt
   by_cases h94 : bAt s k1 = 94
   ·have hc : (((s[k1]'hlt).toNat : Int) == 94) = true := by rw [bAt_in hlt] at h94;simp [h94]
    have hN : nt = true := by rw [HNT.out,h94];rfl
    clear h94
    go_wp2_with fail
    go_meet
    exact ⟨by rw [hN],rfl⟩
   ·have hc : (((s[k1]'hlt).toNat : Int) == 94) = false := by rw [bAt_in hlt] at h94;simp;omega
    have hN : nt = false := by rw [HNT.out,jF h94]
    clear h94
    go_wp2_with fail
    go_meet
    exact ⟨by rw [hN],rfl⟩
  ·have d1 : decide (k1 < s.size) = false := jF hlt;have hN : nt = false := by rw [HNT.out,bAt_end (by omega)];rfl
   go_wp2_with fail
   go_meet
   exact ⟨by rw [hN],rfl⟩
 case rest =>
  obtain ⟨rfl,rfl⟩ := hcut
  go_upto_if 32 with fail
  go_cut [6] (fun v wx => v = .int .i64 (i0 : Int) /\ wx = (w.alloc setObj).alloc endOb)
  case first =>
   cases nt
   ·have hN : i0 = k1 := by rw [HI0.out,HK1.out];rfl
    go_wp2_with fail
    go_meet
    exact ⟨by rw [hN],rfl⟩
   ·have hN : i0 = k1 + 1 := by rw [HI0.out,HK1.out];rfl
    have hk1b : k1 <= s.size := by have := HK1.out;omega
    clear ek2 ek1
    go_wp2_with fail
    go_meet
    exact ⟨by rw [hN];go_num,rfl⟩
  case rest =>
   obtain ⟨rfl,rfl⟩ := hcut;clear ek1 ek2 HK1 HI0 HNT
   go_wp2_with fail
   clear hmk
   go_loopw [6,9] (fun v fs wr => ∃ (fst : Bool) (i : Nat) (t : W4),v = .int .i64 (i : Int) /\ fs = .bool fst /\ i <= s.size /\ Hid (RcInv s R fst t i) /\ Hid (ClW w wr t.mem)) (fun v _ _ => s.size - (intOf v).toNat)
   case atStart => exact ⟨true,i0,noW,rfl,rfl,hi0s,HR0,qhid (HW0.out.congr (fun i _ => noW_mem i))⟩
   case round =>
    clear HW0 HR0;obtain ⟨fst,i,t,rfl,rfl,hi,HR,HW⟩ := hrel
    go_upto_region 7 with fail
    go_cut [48] (fun v wx => v = .bool (fst || !decide (bAt s i = 93)) /\ wx = wr)
    case first =>
     cases fst
     ·by_cases hlt : i < s.size
      ·have d1 : decide (s.size <= i) = false := jF (by omega)
       by_cases h93 : bAt s i = 93
       ·have hc : (((s[i]'hlt).toNat : Int) != 93) = false := by rw [bAt_in hlt] at h93;simp [h93]
        have HD := qhid (jT h93);clear h93
        go_wp2_with fail
        go_meet
        exact ⟨by rw [HD.out];rfl,rfl⟩
       ·have hc : (((s[i]'hlt).toNat : Int) != 93) = true := by rw [bAt_in hlt] at h93;simp;omega
        have HD := qhid (jF h93);clear h93
        go_wp2_with fail
        go_meet
        exact ⟨by rw [HD.out];rfl,rfl⟩
      ·have d1 : decide (s.size <= i) = true := jT (by omega);have h93 : ¬ bAt s i = 93 := by rw [bAt_end (by omega)];decide
       have HD := qhid (jF h93);clear h93
       go_wp2_with fail
       go_meet
       exact ⟨by rw [HD.out];rfl,rfl⟩
     ·go_wp2_with fail
      go_meet
      exact ⟨rfl,rfl⟩
    case rest =>
     obtain ⟨rfl,rfl⟩ := hcut
     cases hG : (fst || !decide (bAt s i = 93))
     ·obtain ⟨rfl,h93⟩ : fst = false /\ bAt s i = 93 := by simpa using hG
      have HD := qhid (HR.out.done h93);have hft := HR.out.fit;have hi1 := in_of_bAt h93 (by omega);clear HR h93 hG
      cases nt
      ·obtain ⟨u,hu⟩ : ∃ u,u = t /\ u.fit := ⟨t,rfl,hft⟩;obtain ⟨rfl,hu⟩ := hu;have HF : Hid (classR s k = (u,0,i + 1)) := qhid (by rw [HCL.out,if_neg (by decide),HD.out]);have MK : Hid (∀ W f,W.heap[(w.heap.size + 1 + 1)]? = some (bsOb f) -> (∀ n,n < 256 -> u.mem n = f n) -> Calls Tryz.prog 131 #[.slice (some ⟨(w.heap.size + 1 + 1),0,none⟩) 256 256] W fun e w' => e = .returned (setVal u) /\ Below W.heap.size W w') := qhid (fun W f hW hf => make_known u.a u.b u.c u.d (bools_of_block hW) hu.1 hu.2.1 hu.2.2.1 hu.2.2.2 hf);clear HCL HD hft
       go_wp2_with fail
       go_loopw [19] (fun b wb => b = .int .i64 0 /\ Hid (ClW w wb u.mem)) (fun _ _ => 0)
       case atStart => exact ⟨rfl,HW⟩
       case round =>
        obtain ⟨rfl,HB⟩ := hrel
        go_wp2_with fail
        refine (MK.out _ _ HB.out.on (fun n hn => rfl)).mono ?_;rintro e w5 ⟨rfl,hb5⟩;have HW5 := qhid (HB.out.below hb5);obtain ⟨⟨u0,u1,u2,u3⟩,⟨v0,v1,v2,v3⟩,_hu⟩ := HW5.out.st;obtain ⟨⟨e0,e1⟩,⟨i0',i1'⟩,he⟩ := HW5.out.en;clear hb5 MK HB;unfold setVal
        go_wp2_with fail
        refine bodyPost_ret (v := .tuple #[setVal u,.agg #[.int .i64 ((i : Int) + 1),.int .i64 0]]) (by simp [results,Tryz.results91,go_sem,u0,u1,u2,u3,e0,e1]) rfl ⟨by rw [HF.out];simp [escAns],?_⟩;exact HW5.out.ret u ((i : Int) + 1) 0
      ·obtain ⟨u,hu⟩ : ∃ u,u = notW t /\ u.fit := ⟨notW t,rfl,notW_fit t⟩;obtain ⟨hut,hu⟩ := hu;have HF : Hid (classR s k = (u,0,i + 1)) := qhid (by rw [HCL.out,if_pos rfl,HD.out,hut];rfl);have HUM : Hid (∀ n,u.mem n = !t.mem n) := qhid (fun n => by rw [hut];exact notW_mem t n);have MK : Hid (∀ W f,W.heap[(w.heap.size + 1 + 1)]? = some (bsOb f) -> (∀ n,n < 256 -> u.mem n = f n) -> Calls Tryz.prog 131 #[.slice (some ⟨(w.heap.size + 1 + 1),0,none⟩) 256 256] W fun e w' => e = .returned (setVal u) /\ Below W.heap.size W w') := qhid (fun W f hW hf => make_known u.a u.b u.c u.d (bools_of_block hW) hu.1 hu.2.1 hu.2.2.1 hu.2.2.2 hf);clear HCL HD hft hut
       go_wp2_with fail
       go_loopw [19] (fun b wb => ∃ m : Nat,m <= 256 /\ b = .int .i64 m /\ Hid (ClW w wb (fun q => if q < m then !t.mem q else t.mem q))) (fun b _ => 256 - (intOf b).toNat)
       case atStart => exact ⟨0,by omega,rfl,qhid (HW.out.congr (fun i _ => by simp))⟩
       case round =>
        obtain ⟨m,hm,rfl,HB⟩ := hrel
        by_cases hlt : m < 256
        ·have dk : decide ((m : Int) < 256) = true := jT (by omega);obtain ⟨x,hx⟩ : ∃ x,x = t.mem m := ⟨_,rfl⟩;obtain ⟨q0,f0,l0⟩ := HB.out.cell m hlt (v := x) (by simp [hx])
         have HN := qhid (HB.out.set (f' := fun q => if q < m + 1 then !t.mem q else t.mem q) m (!x) (fun i hi => by
          by_cases e : i = m
          ·subst e;simp [hx]
          ·by_cases h : i < m
           ·simp [e,h];omega
           ·have : ¬ i < m + 1 := by omega
            simp [e,h,this]))
         clear hx
         cases x
         ·go_wp2_with fail
          go_roundw
          case rel => exact ⟨m + 1,by omega,by go_num,HN⟩
          case measure => simp [intOf];omega
         ·go_wp2_with fail
          go_roundw
          case rel => exact ⟨m + 1,by omega,by go_num,HN⟩
          case measure => simp [intOf];omega
        ·obtain rfl : m = 256 := by omega
         go_wp2_with fail
         refine (MK.out _ _ HB.out.on (fun n hn => by rw [HUM.out,if_pos hn])).mono ?_;rintro e w5 ⟨rfl,hb5⟩;have HW5 := qhid (HB.out.below hb5);obtain ⟨⟨u0,u1,u2,u3⟩,⟨v0,v1,v2,v3⟩,_hu⟩ := HW5.out.st;obtain ⟨⟨e0,e1⟩,⟨i0',i1'⟩,he⟩ := HW5.out.en;clear hb5 MK HB;unfold setVal
         go_wp2_with fail
         refine bodyPost_ret (v := .tuple #[setVal u,.agg #[.int .i64 ((i : Int) + 1),.int .i64 0]]) (by simp [results,Tryz.results91,go_sem,u0,u1,u2,u3,e0,e1]) rfl ⟨by rw [HF.out];simp [escAns],?_⟩;exact HW5.out.ret u ((i : Int) + 1) 0
     ·have hg : fst = true \/ bAt s i ≠ 93 := by simpa using hG
      clear hG;have IT := qhid (fun W => refitem_any s i hi hs W);have hp := partR_set hi
      have HIT : Hid (itemR s i = if (partR s i).2.1 ≠ 0 \/ bAt s (partR s i).2.2 ≠ 45 then partR s i else match onlyW (partR s i).1 with
       | none => (noW,4,(partR s i).2.2)
       | some a => toR s i a ((partR s i).2.2 + 1)) := qhid rfl
      obtain ⟨r,hr⟩ : ∃ r,r = partR s i := ⟨_,rfl⟩;rw [<- hr] at IT HIT hp;clear hr;obtain ⟨lo,c,j⟩ := r;have IT : Hid (∀ W,Calls Tryz.prog 128 #[.string s,.int .i64 (i : Int)] W fun e w' => e = .returned (.tuple #[setVal lo,.agg #[.int .i64 (j : Int),.int .i64 c]]) /\ Below W.heap.size W w') := IT
      have HIT : Hid (itemR s i = if c ≠ 0 \/ bAt s j ≠ 45 then (lo,c,j) else match onlyW lo with
       | none => (noW,4,j)
       | some a => toR s i a (j + 1)) := HIT
      go_wp2_with fail
      refine (IT.out _).mono ?_;rintro e w2 ⟨rfl,hb2⟩;unfold setVal;have HW2 := qhid (HW.out.below hb2);clear hb2
      rcases errS hp.err with rfl | ⟨hc0,hc1,hc2⟩
      ·have hlt2 := HW2.out.lt;have HW3 := qhid (HW2.out.below (below2 _ (setOb lo) (enOb j 0)));have IB3 := qhid (ItB.new w2 lo j 0);have HFL : Hid lo.fit := qhid hp.fit;have hj : j <= s.size := hp.le;have HS := qhid (fun n (hn : n < 256) W => thas_any lo n hn HFL.out W);clear HW HW2 IT;obtain ⟨e0,e1,e2⟩ := end_of_block IB3.out.en
       go_wp2_with fail
       generalize w2.heap.size = b11 at *
       go_loopw [13] (fun b wb => ∃ m : Nat,m <= 256 /\ b = .int .i64 m /\ Hid (ClW w wb (fun q => t.mem q || (decide (q < m) && lo.mem q))) /\ Hid (ItB wb b11 lo j 0)) (fun b _ => 256 - (intOf b).toNat)
       case atStart => exact ⟨0,by omega,rfl,qhid (HW3.out.congr (fun i _ => by simp)),IB3⟩
       case round =>
        clear HW3 IB3 e0 e1 e2;obtain ⟨m,hm,rfl,HB,IB⟩ := hrel
        by_cases hlt : m < 256
        ·have dk : decide ((m : Int) < 256) = true := jT (by omega)
         have hset : ∀ i,i < 256 -> (t.mem i || (decide (i < m + 1) && lo.mem i)) = if i = m then (t.mem m || lo.mem m) else (t.mem i || (decide (i < m) && lo.mem i)) := fun i _ => by
          by_cases e : i = m
          ·subst e;simp
          ·have : decide (i < m + 1) = decide (i < m) := by
            by_cases h : i < m
            ·simp [h];omega
            ·simp [h];omega
           simp [e,this]
         have HST := qhid hset;clear hset;have HSm := qhid (HS.out m hlt)
         cases ht : t.mem m
         ·obtain ⟨q0,f0,l0⟩ := HB.out.cell m hlt (v := false) (by simp [ht]);rw [ht] at HST;have HST : Hid (∀ i,i < 256 -> (t.mem i || (decide (i < m + 1) && lo.mem i)) = if i = m then lo.mem m else (t.mem i || (decide (i < m) && lo.mem i))) := qhid (fun i hi => by rw [HST.out i hi,Bool.false_or]);clear ht;obtain ⟨⟨z0,z1,z2,z3⟩,hz⟩ := set_of_block IB.out.set
          go_wp2_with fail
          refine (HSm.out _).mono ?_;rintro e w3 ⟨rfl,hb3⟩;have HB3 := qhid (HB.out.below hb3);have IB3 := qhid (IB.out.below hb3);have HN := qhid (HB3.out.set m (lo.mem m) HST.out);have IN := qhid (IB3.out.put hlt2 (m := m) (.bool (lo.mem m)));clear q0 f0 l0 z0 z1 z2 z3 hz hb3 HST;obtain ⟨q0,f0,l0⟩ := HB3.out.cell m hlt rfl
          go_wp2_with fail
          go_roundw
          case rel => exact ⟨m + 1,by omega,by go_num,HN,IN⟩
          case measure => simp [intOf];omega
         ·obtain ⟨q0,f0,l0⟩ := HB.out.cell m hlt (v := true) (by simp [ht]);rw [ht] at HST;have HN := qhid (HB.out.set (f' := fun q => t.mem q || (decide (q < m + 1) && lo.mem q)) m true (fun i hi => by have h := HST.out i hi;rw [Bool.true_or] at h;exact h));have IN := qhid (IB.out.put hlt2 (m := m) (.bool true));clear ht HST
          go_wp2_with fail
          go_roundw
          case rel => exact ⟨m + 1,by omega,by go_num,HN,IN⟩
          case measure => simp [intOf];omega
        ·obtain rfl : m = 256 := by omega
         have HB := qhid (HB.out.congr (f' := (uni2 t lo).mem) (fun i hi => by rw [uni2_mem];simp [hi]))
         go_upto_region 18 with fail
         go_cut [88] (fun v wx => v = .bool (!decide (bAt s j = 45)) /\ wx = wr)
         case first =>
          by_cases hlt : j < s.size
          ·have d1 : decide (s.size <= j) = false := jF (by omega)
           by_cases h45 : bAt s j = 45
           ·have hc : (((s[j]'hlt).toNat : Int) != 45) = false := by rw [bAt_in hlt] at h45;simp [h45]
            have HD := qhid (jT h45);clear h45
            go_wp2_with fail
            go_meet
            exact ⟨by rw [HD.out];rfl,rfl⟩
           ·have hc : (((s[j]'hlt).toNat : Int) != 45) = true := by rw [bAt_in hlt] at h45;simp;omega
            have HD := qhid (jF h45);clear h45
            go_wp2_with fail
            go_meet
            exact ⟨by rw [HD.out];rfl,rfl⟩
          ·have d1 : decide (s.size <= j) = true := jT (by omega);have h45 : ¬ bAt s j = 45 := by rw [bAt_end (by omega)];decide
           have HD := qhid (jF h45);clear h45
           go_wp2_with fail
           go_meet
           exact ⟨by rw [HD.out];rfl,rfl⟩
         case rest =>
          obtain ⟨rfl,rfl⟩ := hcut
          by_cases h45 : bAt s j = 45
          ·rw [jT h45];have hj1 := in_of_bAt h45 (by omega)
           have HIT : Hid (itemR s i = match onlyW lo with
            | none => (noW,4,j)
            | some a => toR s i a (j + 1)) := qhid (by rw [HIT.out,if_neg (by rintro (h | h);exact h rfl;exact h h45)])
           clear h45;have ON := qhid (fun W => refonly_any lo HFL.out W);obtain ⟨⟨z0,z1,z2,z3⟩,hz⟩ := set_of_block IB.out.set
           rcases ho : onlyW lo with _ | a
           ·rw [show onlyI lo = -1 by unfold onlyI;rw [ho]] at ON
            have HF : Hid (classR s k = (noW,4,j)) := qhid (by
             have h := HR.out.bad hg (by rw [HIT.out,ho]) (by decide);rw [HCL.out,h]
             cases nt <;> simp)
            clear HIT HCL HR ho
            go_wp2_with fail
            refine (ON.out _).mono ?_;rintro e w4 ⟨rfl,hb4⟩;have HW4 := qhid (HB.out.below hb4);clear hb4 HB IB z0 z1 z2 z3 hz ON;obtain ⟨⟨u0,u1,u2,u3⟩,⟨v0,v1,v2,v3⟩,hu⟩ := HW4.out.st;obtain ⟨⟨e0,e1⟩,⟨i0',i1'⟩,he⟩ := HW4.out.en
            go_wp2_with fail
            refine bodyPost_ret (v := .tuple #[.agg #[.int .u64 0,.int .u64 0,.int .u64 0,.int .u64 0],.agg #[.int .i64 (j : Int),.int .i64 4]]) (by simp [results,Tryz.results91,go_sem,noW,u0,u1,u2,u3,e0,e1]) rfl ⟨by rw [HF.out];simp [escAns,noW],?_⟩;exact HW4.out.ret noW (j : Int) 4
           ·rw [show onlyI lo = (a : Int) by unfold onlyI;rw [ho]] at ON;obtain ⟨q,hq⟩ : ∃ q,q = j + 1 := ⟨_,rfl⟩;have hqs : q <= s.size := by omega
            have HIT : Hid (itemR s i = toR s i a q) := qhid (by rw [HIT.out,ho,hq]);have ha := (only_mem ho).1;have HO := qhid (only_mem ho);clear ho;have IT2 := qhid (fun W => refitem_any s q hqs hs W);have hp2 := partR_set hqs
            have HTO : Hid (toR s i a q = if (partR s q).2.1 ≠ 0 then (noW,(partR s q).2.1,(partR s q).2.2) else match onlyW (partR s q).1 with
             | none => (noW,4,q)
             | some b => if b < a then (noW,5,i) else (rngW a b,0,(partR s q).2.2)) := qhid rfl
            have eq1 : IntKind.i64.wrap ((j : Int) + 1) = (q : Int) := by simp [IntKind.wrap,IntKind.signed,IntKind.bits];omega
            have eq2 : (j : Int) + 1 = (q : Int) := by omega
            obtain ⟨r,hr⟩ : ∃ r,r = partR s q := ⟨_,rfl⟩;rw [<- hr] at IT2 HTO hp2;clear hr hq;obtain ⟨hi',f,j2⟩ := r;have IT2 : Hid (∀ W,Calls Tryz.prog 128 #[.string s,.int .i64 (q : Int)] W fun e w' => e = .returned (.tuple #[setVal hi',.agg #[.int .i64 (j2 : Int),.int .i64 f]]) /\ Below W.heap.size W w') := IT2
            have HTO : Hid (toR s i a q = if f ≠ 0 then (noW,f,j2) else match onlyW hi' with
             | none => (noW,4,q)
             | some b => if b < a then (noW,5,i) else (rngW a b,0,j2)) := HTO
            go_wp2_with fail
            refine (ON.out _).mono ?_;rintro e w4 ⟨rfl,hb4⟩;have HW4 := qhid (HB.out.below hb4);clear hb4 HB IB z0 z1 z2 z3 hz ON;have dA : decide ((a : Int) < 0) = false := jF (by omega)
            go_wp2_with fail
            refine (IT2.out _).mono ?_;rintro e w5 ⟨rfl,hb5⟩;have HW5 := qhid (HW4.out.below hb5);have hlt5 := HW5.out.lt;clear hb5 HW4 IT2 eq1 dA;unfold setVal
            rcases errS hp2.err with rfl | ⟨hd0,hd1,hd2⟩
            ·have HFH : Hid hi'.fit := qhid hp2.fit;have hj2 : j2 <= s.size := hp2.le
             have HTO : Hid (toR s i a q = match onlyW hi' with
              | none => (noW,4,q)
              | some b => if b < a then (noW,5,i) else (rngW a b,0,j2)) := qhid (by rw [HTO.out,if_neg (by simp)])
             have ON := qhid (fun W => refonly_any hi' HFH.out W);have HW6 := qhid (HW5.out.below (below2 _ (setOb hi') (enOb j2 0)));have IB6 := qhid (ItB.new w5 hi' j2 0);clear HW5;obtain ⟨e0,e1,e2⟩ := end_of_block IB6.out.en;obtain ⟨⟨z0,z1,z2,z3⟩,hz⟩ := set_of_block IB6.out.set
             rcases ho2 : onlyW hi' with _ | b
             ·rw [show onlyI hi' = -1 by unfold onlyI;rw [ho2]] at ON
              have HF : Hid (classR s k = (noW,4,q)) := qhid (by
               have h := HR.out.bad hg (by rw [HIT.out,HTO.out,ho2]) (by decide);rw [HCL.out,h]
               cases nt <;> simp)
              clear HIT HCL HR ho2 HTO HO
              go_wp2_with fail
              refine (ON.out _).mono ?_;rintro e w7 ⟨rfl,hb7⟩;have HW7 := qhid (HW6.out.below hb7);have IB7 := qhid (IB6.out.below hb7);clear hb7 HW6 IB6 z0 z1 z2 z3 hz e0 e1 e2 ON;obtain ⟨⟨u0,u1,u2,u3⟩,⟨v0,v1,v2,v3⟩,hu⟩ := HW7.out.st;obtain ⟨⟨e0,e1⟩,⟨i0',i1'⟩,he⟩ := HW7.out.en
              go_wp2_with fail
              refine bodyPost_ret (v := .tuple #[.agg #[.int .u64 0,.int .u64 0,.int .u64 0,.int .u64 0],.agg #[.int .i64 (q : Int),.int .i64 4]]) (by simp [results,Tryz.results91,go_sem,noW,u0,u1,u2,u3,e0,e1]) rfl ⟨by rw [HF.out];simp [escAns,noW],?_⟩;exact HW7.out.ret noW (q : Int) 4
             ·rw [show onlyI hi' = (b : Int) by unfold onlyI;rw [ho2]] at ON;have hb := (only_mem ho2).1
              by_cases hba : b < a
              ·have dba : decide (b < a) = true := jT hba
               have HF : Hid (classR s k = (noW,5,i)) := qhid (by
                have hI : itemR s i = (noW,5,i) := by rw [HIT.out,HTO.out,ho2];exact if_pos hba
                have h := HR.out.bad hg hI (by decide);rw [HCL.out,h]
                cases nt <;> simp)
               clear HIT HCL HR ho2 HTO hba HO
               go_wp2_with fail
               refine (ON.out _).mono ?_;rintro e w7 ⟨rfl,hb7⟩;have HW7 := qhid (HW6.out.below hb7);have IB7 := qhid (IB6.out.below hb7);clear hb7 HW6 IB6 z0 z1 z2 z3 hz e0 e1 e2 ON;obtain ⟨⟨u0,u1,u2,u3⟩,⟨v0,v1,v2,v3⟩,hu⟩ := HW7.out.st;obtain ⟨⟨e0,e1⟩,⟨i0',i1'⟩,he⟩ := HW7.out.en
               go_wp2_with fail
               refine bodyPost_ret (v := .tuple #[.agg #[.int .u64 0,.int .u64 0,.int .u64 0,.int .u64 0],.agg #[.int .i64 (i : Int),.int .i64 5]]) (by simp [results,Tryz.results91,go_sem,noW,u0,u1,u2,u3,e0,e1]) rfl ⟨by rw [HF.out];simp [escAns,noW],?_⟩;exact HW7.out.ret noW (i : Int) 5
              ·have dba : decide (b < a) = false := jF hba;have HI : Hid (itemR s i = (rngW a b,0,j2)) := qhid (by rw [HIT.out,HTO.out,ho2];exact if_neg hba);have HN := qhid (HR.out.on hg HI.out).1;have hij := (HR.out.on hg HI.out).2
               have HMM : Hid (∀ x,x < 256 -> (uni2 t (rngW a b)).mem x = ((uni2 t lo).mem x || (decide (a <= x) && decide (x < b + 1)))) := qhid (fun x hx => by
                rw [uni2_mem,uni2_mem,show (rngW a b).mem x = decide (a <= x /\ x <= b) from memb_rgw a b x hb hx]
                have h1 : lo.mem x = decide (x = a) := by
                 by_cases e : x = a
                 ·rw [e,HO.out.2.1];simp
                 ·rw [jF e,<- Bool.not_eq_true];exact fun h => e (HO.out.2.2 x hx h)
                rw [h1]
                by_cases e : x = a
                ·subst e;have : x < b + 1 := by omega
                 simp;omega
                ·by_cases h2 : a <= x <;> by_cases h3 : x <= b <;> simp [e,h2,h3] <;> omega)
               clear HIT HI HCL HR ho2 HTO HO
               go_wp2_with fail
               refine (ON.out _).mono ?_;rintro e w7 ⟨rfl,hb7⟩;have HW7 := qhid (HW6.out.below hb7);have IB7 := qhid (IB6.out.below hb7);clear hb7 HW6 IB6 z0 z1 z2 z3 hz e0 e1 e2 ON;obtain ⟨e0,e1,e2⟩ := end_of_block IB7.out.en;generalize w5.heap.size = b15 at *
               go_wp2_with fail
               go_loopw [18] (fun c wb => ∃ m : Nat,a <= m /\ m <= b + 1 /\ c = .int .i64 m /\ Hid (ClW w wb (fun x => (uni2 t lo).mem x || (decide (a <= x) && decide (x < m)))) /\ Hid (ItB wb b15 hi' j2 0)) (fun c _ => b + 1 - (intOf c).toNat)
               case atStart => exact ⟨a,by omega,by omega,rfl,qhid (HW7.out.congr (fun x _ => by
                by_cases h : a <= x
                ·have : ¬ x < a := by omega
                 simp [h,this]
                ·simp [h])),IB7⟩
               case round =>
                clear HW7 IB7 e0 e1 e2;obtain ⟨m,ham,hmb,rfl,HB,IB⟩ := hrel
                by_cases hlt : m <= b
                ·have dk : decide (m <= b) = true := jT hlt;have hm256 : m < 256 := by omega
                 obtain ⟨q0,f0,l0⟩ := HB.out.cell m hm256 rfl
                 have HN2 := qhid (HB.out.set (f' := fun x => (uni2 t lo).mem x || (decide (a <= x) && decide (x < m + 1))) m true (fun x hx => by
                  by_cases e : x = m
                  ·subst e;simp [ham]
                  ·by_cases h : x < m
                   ·have : x < m + 1 := by omega
                    simp [e,h,this]
                   ·have : ¬ x < m + 1 := by omega
                    simp [e,h,this]))
                 have IN2 := qhid (IB.out.put hlt5 (m := m) (.bool true));generalize ((uni2 t lo).mem m || (decide (a <= m) && decide (m < m))) = y at *
                 go_wp2_with fail
                 go_roundw
                 case rel => exact ⟨m + 1,by omega,by omega,by go_num,HN2,IN2⟩
                 case measure => simp [intOf];omega
                ·obtain rfl : m = b + 1 := by omega
                 have dk : decide ((b : Int) + 1 <= (b : Int)) = false := jF (by omega);have dk2 : decide (b + 1 <= b) = false := jF (by omega);obtain ⟨e0,e1,e2⟩ := end_of_block IB.out.en;have HWN := qhid (HB.out.congr (f' := (uni2 t (rngW a b)).mem) HMM.out)
                 go_wp2_with fail
                 go_roundw
                 case rel => exact ⟨false,j2,uni2 t (rngW a b),rfl,rfl,hj2,HN,HWN⟩
                 case measure => simp [intOf];omega
            ·have HF : Hid (classR s k = (noW,f,j2)) := qhid (by
              have h := HR.out.bad hg (by rw [HIT.out,HTO.out,if_pos hd0]) hd0;rw [HCL.out,h]
              cases nt <;> simp [hd0])
             clear HIT HCL HR HTO HO;have HW6 := qhid (HW5.out.below (below2 _ (setOb hi') (enOb j2 f)));have IB6 := qhid (ItB.new w5 hi' j2 f);clear HW5 hd0 hp2
             go_wp2_with fail
             obtain ⟨W,hW⟩ : ∃ W,W = (w5.alloc (setOb hi')).alloc (enOb j2 f) := ⟨_,rfl⟩;rw [<- hW] at HW6 IB6;change Code.wp _ _ _ _ ((w5.alloc (setOb hi')).alloc (enOb j2 f));rw [<- hW];clear hW;generalize w5.heap.size = b15 at *;refine Reg.wp_region_S (erTold j2 f) (ErS w (b15 + 1) j2 f) [0,1,2,3] (by rfl) (by kernel_rfl) (by kernel_rfl) ?_ ?_ ?_
             ·exact ⟨HW6.out.st.drewN 1,⟨HW6.out.en.at_,HW6.out.en.free,HW6.out.en.lt⟩,⟨(OwnEnd.of IB6.out.en).at_,(OwnEnd.of IB6.out.en).free,(OwnEnd.of IB6.out.en).lt⟩,by omega,⟨HW6.out.bel.os,HW6.out.bel.tape,HW6.out.bel.output,HW6.out.bel.size,HW6.out.bel.block⟩⟩
             ·refine Reg.oS (fun listed A X hI hin hun hall HS => ?_) ?_
              ·clear hI hall
               go_simp
               exact ⟨rfl,HS.same (by decide)⟩
              refine Reg.oS (fun listed A X hI hin hun hall HS => ?_) ?_
              ·have e16 := hI.wo 16 rfl;obtain ⟨⟨z0,z1⟩,⟨l0,l1⟩,hz⟩ := HS.it;clear hI hall
               go_simp
               exact ⟨rfl,HS.same (by decide)⟩
              refine Reg.oS (fun listed A X hI hin hun hall HS => ?_) ?_
              ·have e4 := hI.wo 4 rfl;have e106 : A.tmps[106]? = some (.agg #[.int .u64 0,.int .u64 0,.int .u64 0,.int .u64 0]) := hI.v hall 0 106;obtain ⟨⟨u0,u1,u2,u3⟩,⟨v0,v1,v2,v3⟩,hu⟩ := HS.st;have HS3 := qhid HS.put2;clear HS;clear hI hall
               go_simp
               exact ⟨rfl,HS3.out⟩
              refine Reg.oS (fun listed A X hI hin hun hall HS => ?_) ?_
              ·have e5 := hI.wo 5 rfl;have e107 : A.tmps[107]? = some (.agg #[.int .i64 (j2 : Int),.int .i64 f]) := hI.v hall 1 107;obtain ⟨⟨u0,u1⟩,⟨v0,v1⟩,hu⟩ := HS.en;have HS3 := qhid (HS.put3 hin);clear HS;clear hI hall
               go_simp
               exact ⟨rfl,HS3.out⟩
              trivial
             ·intro W9 hS;have hst : OwnSet W9 w.heap.size noW := hS.st;have hen : OwnEnd W9 (w.heap.size + 1) (j2 : Int) f := hS.en;have HB9 := qhid hS.bel;obtain ⟨⟨q0,q1,q2,q3⟩,_,_⟩ := hst;obtain ⟨⟨m0,m1⟩,_,_⟩ := hen;clear hS;simp [Reg.finalTmps,Reg.dstAt,Reg.valOf,erTold]
              go_wp2_with fail
              refine bodyPost_ret (v := .tuple #[.agg #[.int .u64 0,.int .u64 0,.int .u64 0,.int .u64 0],.agg #[.int .i64 (j2 : Int),.int .i64 f]]) (by simp [results,Tryz.results91,go_sem,noW,q0,q1,q2,q3,m0,m1]) rfl ⟨by rw [HF.out];simp [escAns,noW],HB9.out⟩
          ·rw [jF h45];have HI : Hid (itemR s i = (lo,0,j)) := qhid (by rw [HIT.out,if_pos (.inr h45)]);have HN := qhid (HR.out.on hg HI.out).1;have hij := (HR.out.on hg HI.out).2;have HWN := HB;clear h45 HIT HI HCL HR
           go_wp2_with fail
           go_roundw
           case rel => exact ⟨false,j,uni2 t lo,rfl,rfl,hj,HN,HWN⟩
           case measure => simp [intOf];omega
      ·have HF : Hid (classR s k = (noW,c,j)) := qhid (by
        have h := HR.out.bad hg (by rw [HIT.out,if_pos (.inl hc0)]) hc0;rw [HCL.out,h]
        cases nt <;> simp [hc0])
       have hlt2 := HW2.out.lt;have HW3 := qhid (HW2.out.below (below2 _ (setOb lo) (enOb j c)));have IB3 := qhid (ItB.new w2 lo j c);clear HCL HR HIT HW HW2 hc0 IT
       go_wp2_with fail
       obtain ⟨W,hW⟩ : ∃ W,W = (w2.alloc (setOb lo)).alloc (enOb j c) := ⟨_,rfl⟩;rw [<- hW] at HW3 IB3;change Code.wp _ _ _ _ ((w2.alloc (setOb lo)).alloc (enOb j c));rw [<- hW];clear hW;generalize w2.heap.size = b11 at *;refine Reg.wp_region_S (erTold j c) (ErS w (b11 + 1) j c) [0,1,2,3] (by rfl) (by kernel_rfl) (by kernel_rfl) ?_ ?_ ?_
       ·exact ⟨HW3.out.st.drewN 1,⟨HW3.out.en.at_,HW3.out.en.free,HW3.out.en.lt⟩,⟨(OwnEnd.of IB3.out.en).at_,(OwnEnd.of IB3.out.en).free,(OwnEnd.of IB3.out.en).lt⟩,by omega,⟨HW3.out.bel.os,HW3.out.bel.tape,HW3.out.bel.output,HW3.out.bel.size,HW3.out.bel.block⟩⟩
       ·refine Reg.oS (fun listed A X hI hin hun hall HS => ?_) ?_
        ·clear hI hall
         go_simp
         exact ⟨rfl,HS.same (by decide)⟩
        refine Reg.oS (fun listed A X hI hin hun hall HS => ?_) ?_
        ·have e12 := hI.wo 12 rfl;obtain ⟨⟨z0,z1⟩,⟨l0,l1⟩,hz⟩ := HS.it;clear hI hall
         go_simp
         exact ⟨rfl,HS.same (by decide)⟩
        refine Reg.oS (fun listed A X hI hin hun hall HS => ?_) ?_
        ·have e4 := hI.wo 4 rfl;have e59 : A.tmps[59]? = some (.agg #[.int .u64 0,.int .u64 0,.int .u64 0,.int .u64 0]) := hI.v hall 0 59;obtain ⟨⟨u0,u1,u2,u3⟩,⟨v0,v1,v2,v3⟩,hu⟩ := HS.st;have HS3 := qhid HS.put2;clear HS;clear hI hall
         go_simp
         exact ⟨rfl,HS3.out⟩
        refine Reg.oS (fun listed A X hI hin hun hall HS => ?_) ?_
        ·have e5 := hI.wo 5 rfl;have e60 : A.tmps[60]? = some (.agg #[.int .i64 (j : Int),.int .i64 c]) := hI.v hall 1 60;obtain ⟨⟨u0,u1⟩,⟨v0,v1⟩,hu⟩ := HS.en;have HS3 := qhid (HS.put3 hin);clear HS;clear hI hall
         go_simp
         exact ⟨rfl,HS3.out⟩
        trivial
       ·intro W9 hS;have hst : OwnSet W9 w.heap.size noW := hS.st;have hen : OwnEnd W9 (w.heap.size + 1) (j : Int) c := hS.en;have HB9 := qhid hS.bel;obtain ⟨⟨q0,q1,q2,q3⟩,_,_⟩ := hst;obtain ⟨⟨m0,m1⟩,_,_⟩ := hen;clear hS;simp [Reg.finalTmps,Reg.dstAt,Reg.valOf,erTold]
        go_wp2_with fail
        refine bodyPost_ret (v := .tuple #[.agg #[.int .u64 0,.int .u64 0,.int .u64 0,.int .u64 0],.agg #[.int .i64 (j : Int),.int .i64 c]]) (by simp [results,Tryz.results91,go_sem,noW,q0,q1,q2,q3,m0,m1]) rfl ⟨by rw [HF.out];simp [escAns,noW],HB9.out⟩
end Go.Proofs.YtlmcgbieobklhaaGreatDoor
