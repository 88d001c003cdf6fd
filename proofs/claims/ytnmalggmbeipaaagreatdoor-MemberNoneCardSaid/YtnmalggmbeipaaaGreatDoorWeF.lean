/- A part of the proof. -/
import Derived.Test.YtnmalggmbeipaaaGreatDoorWeJ
import Derived.Deep.AppendLies
set_option maxRecDepth 100000
set_option maxHeartbeats 16000000
namespace Go.Proofs.YtnmalggmbeipaaaGreatDoor
section
section
open Go Go.RowKit
theorem WtB.off {w : World} {b mb : Nat} {f : Wts} {D : List (Option Nat × Value)} (h : WtB w b f) (hf : f ≠ noneW) (hv : VMap w mb D) : b ≠ mb := by
 rintro rfl;obtain ⟨D0,hown,hd⟩ := h;have h0 : Maps.size D0 ≠ 0 := fun e => hf ((owns_none hown hd).1 e)
 obtain ⟨es,clock,hb,F,hs,rfl⟩ := hown;obtain ⟨es',clock',hb',he⟩ := hv;rw [hb] at hb';injection hb' with hb';injection hb' with e1 e2;subst e1
 cases hl : es.toList with
 | nil =>
  rw [hl] at h0;exact h0 rfl
 | cons e l =>
  obtain ⟨y,hy⟩ := F.reads e (by rw [hl];exact List.mem_cons_self ..);rw [hl] at he
  cases D with
  | nil => simp [VEnt] at he
  | cons d D =>
   simp only [VEnt,List.map_cons,List.cons.injEq,Prod.mk.injEq] at he;unfold WideElems.rd at hy;rw [he.1.1] at hy
   have : keyOf Tryz.prog 3 (kPtr d.1) = none := by
    unfold kPtr
    cases d.1 <;> kernel_rfl
   rw [this] at hy
   cases hy
theorem WtAt.tell {w w' : World} {mb : Nat} {D : List (Option Nat × Value)} {v : Value} {f : Wts} (h : WtAt w v f) (hv : VMap w mb D) (hg : w.grownBy w' (some mb)) : WtAt w' v f := by
 rcases h with h | ⟨b,h1,h2,h3,h4⟩
 ·exact .inl h
 ·exact .inr ⟨b,h1,Nat.lt_of_lt_of_le h2 hg.size,h3.kept (hg.block b h2 (fun e => h3.off h4 hv (Option.some.inj e))),h4⟩
theorem PrtAt.tell {w w' : World} {mb : Nat} {D : List (Option Nat × Value)} {v : Value} {a : Prt} (h : PrtAt w v a) (hv : VMap w mb D) (hg : w.grownBy w' (some mb)) : PrtAt w' v a := by
 obtain ⟨mf,ml,h1,h2,h3⟩ := h;exact ⟨mf,ml,h1,h2.tell hv hg,h3.tell hv hg⟩
def KoK : Co -> Prop
 | .nil => False
 | .node k _ _ a b => (0 <= k /\ k <= 4) /\ (k = 2 \/ k = 3 -> KoK a /\ KoK b) /\ (k = 4 -> KoK a)
theorem KoK.inn {x z : PC} (h : KoK x.co) (hz : z ∈ x.inn) : KoK z.co := by
 cases x with
 | nil => cases hz
 | node q k s zz a b =>
  rcases PC.inn_cases hz with ⟨c,rfl | rfl⟩ | ⟨_,c,rfl⟩
  ·exact (h.2.1 c).1
  ·exact (h.2.1 c).2
  ·exact h.2.2 c
theorem KoK.ptr {x : PC} (h : KoK x.co) : ∃ q k s z a b,x = .node q k s z a b /\ 0 <= k /\ k <= 4 := by
 cases x with
 | nil => exact h.elim
 | node q k s z a b => exact ⟨q,k,s,z,a,b,rfl,h.1.1,h.1.2⟩
theorem KoK.last {dn : Nat -> Bool} : ∀ (r : List PC) (x : PC),KoK x.co -> IsPath dn x r -> KoK (lastP x r).co
 | [],_,h,_ => h
 | y :: r,_,h,⟨h1,_,h3⟩ => KoK.last r y (h.inn h1) h3
def prtN : Value -> Int
 | .agg a => match a.toList with
  | .int _ n :: _ => n
  | _ => 0
 | _ => 0
def dnD (D : List (Option Nat × Value)) (q : Nat) : Bool := match vgot D (some q) with
 | none => false
 | some v => decide (prtN v ≠ -1)
theorem dnD_some {D : List (Option Nat × Value)} {q : Nat} {v : Value} (h : vgot D (some q) = some v) : dnD D q = decide (prtN v ≠ -1) := by unfold dnD;rw [h]
theorem dnD_none {D : List (Option Nat × Value)} {q : Nat} (h : vgot D (some q) = none) : dnD D q = false := by unfold dnD;rw [h]
theorem dnD_true {D : List (Option Nat × Value)} {q : Nat} (h : dnD D q = true) : ∃ v,vgot D (some q) = some v /\ prtN v ≠ -1 := by
 unfold dnD at h
 split at h
 ·cases h
 ·rename_i v e
  exact ⟨v,e,by simpa using h⟩
theorem dnD_put (D : List (Option Nat × Value)) (q p : Nat) (v : Value) : dnD (vput D (some q) v) p = if p = q then decide (prtN v ≠ -1) else dnD D p := by
 by_cases h : p = q
 ·rw [if_pos h];exact dnD_some (by rw [vgot_put,if_pos (by rw [h])])
 ·rw [if_neg h];unfold dnD;rw [vgot_put,if_neg (fun e => h (Option.some.inj e))]
structure LrK (w0 wr : World) (L : List PC) (D : List (Option Nat × Value)) : Prop where
 nl : vgot D none = none
 done : ∀ q v,vgot D (some q) = some v -> prtN v ≠ -1 -> ∃ y : PC,y.ptr = some q /\ PCAt w0 y /\ PrtAt wr v (prtC y.co) /\ (prtC y.co).places <= 600 /\ ∀ z ∈ y.inn,∃ p,z.ptr = some p /\ dnD D p = true
 opn : ∀ q v,vgot D (some q) = some v -> prtN v = -1 -> v = openV /\ ∃ y ∈ L,y.ptr = some q
def LrP (x : PC) (L : List PC) (D : List (Option Nat × Value)) : Prop :=
 (L = [] /\ ∃ q,x.ptr = some q /\ dnD D q = true) \/ ∃ r,L = x :: r /\ (∃ q,x.ptr = some q /\ dnD D q = false) /\ IsPath (dnD D) x r
theorem LrK.up {w0 w w' : World} {L : List PC} {D : List (Option Nat × Value)} (h : LrK w0 w L D) (hb : Below w.heap.size w w') : LrK w0 w' L D :=
 ⟨h.nl,fun q v h1 h2 => by
  obtain ⟨y,e1,e2,e3,e4⟩ := h.done q v h1 h2
  exact ⟨y,e1,e2,e3.up hb,e4⟩,h.opn⟩
theorem WtAt.cells {w w' : World} {r : Option Nat} {v : Value} {f : Wts} (h : WtAt w v f) (hg : w.grownBy w' r) (hr : ∀ g,r = some g -> ∃ c t fr,w.heap[g]? = some (.cells c t fr)) : WtAt w' v f := by
 rcases h with h | ⟨b,h1,h2,h3,h4⟩
 ·exact .inl h
 ·refine .inr ⟨b,h1,Nat.lt_of_lt_of_le h2 hg.size,h3.kept (hg.block b h2 (fun e => ?_)),h4⟩;obtain ⟨c,t,fr,h5⟩ := hr b e.symm;obtain ⟨D,⟨es,clock,h6,_⟩,_⟩ := h3;rw [h5] at h6
  cases h6
theorem PrtAt.cells {w w' : World} {r : Option Nat} {v : Value} {a : Prt} (h : PrtAt w v a) (hg : w.grownBy w' r) (hr : ∀ g,r = some g -> ∃ c t fr,w.heap[g]? = some (.cells c t fr)) : PrtAt w' v a := by
 obtain ⟨mf,ml,h1,h2,h3⟩ := h;exact ⟨mf,ml,h1,h2.cells hg hr,h3.cells hg hr⟩
theorem LrK.cells {w0 w w' : World} {r : Option Nat} {L : List PC} {D : List (Option Nat × Value)} (h : LrK w0 w L D) (hg : w.grownBy w' r) (hr : ∀ g,r = some g -> ∃ c t fr,w.heap[g]? = some (.cells c t fr)) : LrK w0 w' L D :=
 ⟨h.nl,fun q v h1 h2 => by
  obtain ⟨y,e1,e2,e3,e4⟩ := h.done q v h1 h2
  exact ⟨y,e1,e2,e3.cells hg hr,e4⟩,h.opn⟩
theorem LrK.tell {w0 w w' : World} {mb : Nat} {L : List PC} {D D' : List (Option Nat × Value)} (h : LrK w0 w L D) (hv : VMap w mb D') (hg : w.grownBy w' (some mb)) : LrK w0 w' L D :=
 ⟨h.nl,fun q v h1 h2 => by
  obtain ⟨y,e1,e2,e3,e4⟩ := h.done q v h1 h2
  exact ⟨y,e1,e2,e3.tell hv hg,e4⟩,h.opn⟩
theorem lr_start {w0 w : World} {x : PC} {q : Nat} (hq : x.ptr = some q) : LrK w0 w [x] [] /\ LrP x [x] [] :=
 ⟨⟨rfl,fun _ _ h _ => (by cases h),fun _ _ h _ => (by cases h)⟩,.inr ⟨[],rfl,⟨q,hq,rfl⟩,trivial⟩⟩
theorem path_last {dn : Nat -> Bool} : ∀ (r : List PC) (x : PC),(∃ q,x.ptr = some q /\ dn q = false) -> IsPath dn x r -> ∃ q,(lastP x r).ptr = some q /\ dn q = false
 | [],_,h,_ => h
 | y :: r,_,_,⟨_,h2,h3⟩ => path_last r y h2 h3
theorem lr_push {w0 w : World} {x z : PC} {r : List PC} {D : List (Option Nat × Value)} {q p : Nat} (hK : LrK w0 w (x :: r) D) (hx : ∃ q,x.ptr = some q /\ dnD D q = false) (hp : IsPath (dnD D) x r) (hq : (lastP x r).ptr = some q) (hz : z ∈ (lastP x r).inn) (hzp : z.ptr = some p) (hn : vgot D (some p) = none) :
  LrK w0 w (x :: (r ++ [z])) (vput D (some q) openV) /\ LrP x (x :: (r ++ [z])) (vput D (some q) openV) /\ dnD (vput D (some q) openV) = dnD D := by
 obtain ⟨q',e1,e2⟩ := path_last r x hx hp;obtain rfl : q' = q := by rw [hq] at e1;exact (Option.some.inj e1).symm
 have hd : dnD (vput D (some q') openV) = dnD D := by
  funext i;rw [dnD_put]
  split
  ·rename_i h
   rw [h,e2];rfl
  ·rfl
 refine ⟨⟨?_,?_,?_⟩,.inr ⟨_,rfl,by rw [hd];exact hx,by rw [hd];exact hp.snoc r x z hz ⟨p,hzp,dnD_none hn⟩⟩,hd⟩
 ·rw [vgot_put,if_neg (by intro e;cases e)];exact hK.nl
 ·intro i v h1 h2;rw [vgot_put] at h1
  split at h1
  ·injection h1 with h1;exact absurd (by rw [<- h1];rfl) h2
  ·obtain ⟨y,g1,g2,g3,g4,g5⟩ := hK.done i v h1 h2;exact ⟨y,g1,g2,g3,g4,by rw [hd];exact g5⟩
 ·intro i v h1 h2;rw [vgot_put] at h1
  split at h1
  ·rename_i h
   injection h1 with h1;refine ⟨h1.symm,lastP x r,?_,by rw [hq,h]⟩
   rcases List.mem_cons.1 (lastP_mem r x) with h | h
   ·rw [h];exact List.mem_cons_self ..
   ·exact List.mem_cons_of_mem _ (List.mem_append_left _ h)
  ·obtain ⟨g1,y,g2,g3⟩ := hK.opn i v h1 h2;refine ⟨g1,y,?_,g3⟩
   rcases List.mem_cons.1 g2 with rfl | g2
   ·exact List.mem_cons_self ..
   ·exact List.mem_cons_of_mem _ (List.mem_append_left _ g2)
theorem lr_inner {w0 w : World} {x z : PC} {r : List PC} {D : List (Option Nat × Value)} {p : Nat} {v : Value} (hK : LrK w0 w (x :: r) D) (hx : PCAt w0 x) (hp : IsPath (dnD D) x r) (hz : z ∈ (lastP x r).inn) (hzp : z.ptr = some p) (hv : vgot D (some p) = some v) :
  prtN v ≠ -1 /\ PrtAt w v (prtC z.co) /\ (prtC z.co).places <= 600 := by
 have h1 : prtN v ≠ -1 := fun e => by
  obtain ⟨_,y,h2,h3⟩ := hK.opn p v hv e;exact inn_off hx hp hz h2 (by rw [hzp,h3])
 obtain ⟨y,g1,g2,g3,g4,_⟩ := hK.done p v hv h1;obtain rfl := g2.uniq ((path_at r x hx hp _ (lastP_mem r x)).inn hz) (by rw [g1,hzp]);exact ⟨h1,g3,g4⟩
theorem snoc_cases : ∀ (r : List PC) (x : PC),(r = [] /\ lastP x r = x) \/ ∃ r0,r = r0 ++ [lastP x r]
 | [],_ => .inl ⟨rfl,rfl⟩
 | y :: r,x => by
  rcases snoc_cases r y with ⟨rfl,h⟩ | ⟨r0,h⟩
  ·exact .inr ⟨[],rfl⟩
  ·exact .inr ⟨y :: r0,by rw [List.cons_append];exact congrArg _ h⟩
theorem path_mem {dn : Nat -> Bool} : ∀ (r : List PC) (x : PC),IsPath dn x r -> ∀ y ∈ r,∃ q,y.ptr = some q /\ dn q = false
 | [],_,_,_,h => by cases h
 | z :: r,_,⟨_,h2,h3⟩,y,h => by
  rcases List.mem_cons.1 h with rfl | h
  ·exact h2
  ·exact path_mem r z h3 y h
theorem lr_done {w0 w w' : World} {x : PC} {r : List PC} {D : List (Option Nat × Value)} {q : Nat} {v : Value} (hK : LrK w0 w (x :: r) D) (hb : Below w.heap.size w w') (hx0 : PCAt w0 x) (hx : ∃ q,x.ptr = some q /\ dnD D q = false) (hp : IsPath (dnD D) x r) (hq : (lastP x r).ptr = some q)
  (hin : ∀ z ∈ (lastP x r).inn,∃ p,z.ptr = some p /\ dnD D p = true) (hv : PrtAt w' v (prtC (lastP x r).co)) (h6 : (prtC (lastP x r).co).places <= 600) :
  LrK w0 w' (x :: r).dropLast (vput D (some q) v) /\ LrP x (x :: r).dropLast (vput D (some q) v) /\ x.nd (dnD (vput D (some q) v)) < x.nd (dnD D) := by
 obtain ⟨q',e1,e2⟩ := path_last r x hx hp;obtain rfl : q' = q := by rw [hq] at e1;exact (Option.some.inj e1).symm
 have hvn : prtN v ≠ -1 := by
  obtain ⟨mf,ml,rfl,_⟩ := hv
  show ((prtC (lastP x r).co).places : Int) ≠ -1
  omega
 have hd : ∀ i,dnD (vput D (some q') v) i = if i = q' then true else dnD D i := fun i => by rw [dnD_put,jT hvn]
 have hm : ∀ i,dnD D i = true -> dnD (vput D (some q') v) i = true := fun i h => by rw [hd];split <;> trivial
 have hpa := path_at r x hx0 hp;have hlx : PCAt w0 (lastP x r) := hpa _ (lastP_mem r x);refine ⟨⟨?_,?_,?_⟩,?_,path_less hm r x (lastP x r) q' hx hp (lastP_get r x) hq (by rw [hd,if_pos rfl])⟩
 ·rw [vgot_put,if_neg (by intro e;cases e)];exact hK.nl
 ·intro i u h1 h2;rw [vgot_put] at h1
  split at h1
  ·rename_i h
   injection h1 with h1;subst h1;refine ⟨lastP x r,by rw [hq,h],hlx,hv,h6,fun z hz => ?_⟩;obtain ⟨p,g1,g2⟩ := hin z hz;exact ⟨p,g1,hm p g2⟩
  ·obtain ⟨y,g1,g2,g3,g4,g5⟩ := hK.done i u h1 h2;refine ⟨y,g1,g2,g3.up hb,g4,fun z hz => ?_⟩;obtain ⟨p,f1,f2⟩ := g5 z hz;exact ⟨p,f1,hm p f2⟩
 ·intro i u h1 h2;rw [vgot_put] at h1
  split at h1
  ·injection h1 with h1;rw [h1] at hvn;exact absurd h2 hvn
  ·rename_i h
   obtain ⟨g1,y,g2,g3⟩ := hK.opn i u h1 h2;refine ⟨g1,y,?_,g3⟩;have hne : y ≠ lastP x r := fun e => h (by rw [<- g3,e,hq])
   rcases snoc_cases r x with ⟨rfl,e⟩ | ⟨r0,e⟩
   ·rw [List.mem_singleton.1 g2,e] at hne;exact absurd rfl hne
   ·rw [e] at g2 ⊢;rw [<- List.cons_append] at g2 ⊢;rw [List.dropLast_concat]
    rcases List.mem_append.1 g2 with g2 | g2
    ·exact g2
    ·exact absurd (List.mem_singleton.1 g2) hne
 ·rcases snoc_cases r x with ⟨rfl,e⟩ | ⟨r0,e⟩
  ·exact .inl ⟨rfl,q',by rw [<- e,hq],by rw [hd,if_pos rfl]⟩
  ·have hp0 : IsPath (dnD D) x (r0 ++ [lastP x r]) := by rw [<- e];exact hp
   have off : ∀ y ∈ x :: r0,∀ i,y.ptr = some i -> dnD D i = false -> dnD (vput D (some q') v) i = false := fun y hy i hi h => by
    rw [hd,if_neg]
    ·exact h
    ·rintro rfl
     have hy' : PCAt w0 y := hpa y (by
      rw [e,<- List.cons_append]
      exact List.mem_append_left _ hy)
     have h1 := hy'.uniq hlx (by rw [hi,hq]);have h2 := path_gt r0 x (lastP x r) hp0 y hy;rw [h1] at h2;omega
   obtain ⟨i,hi,hi2⟩ := hx;refine .inr ⟨r0,by rw [e,<- List.cons_append,List.dropLast_concat],⟨i,hi,off x (List.mem_cons_self ..) i hi hi2⟩,?_⟩;refine hp0.pop r0 x _ (fun y hy i hi => ?_);refine off y (List.mem_cons_of_mem _ hy) i hi ?_;obtain ⟨i',g1,g2⟩ : ∃ i,y.ptr = some i /\ dnD D i = false := path_mem r x hp y (by rw [e];exact List.mem_append_left _ hy);rw [hi] at g1;rw [Option.some.inj g1];exact g2
end
end
end Go.Proofs.YtnmalggmbeipaaaGreatDoor
namespace Go.Proofs.YtnmalggmbeipaaaGreatDoor
section
section
open Go Go.RowKit
attribute [local go_sem ↓] Go.wp_at_zero Go.wp_at_succ
attribute [local go_sem] eq4
theorem vput_mem (D : List (Option Nat × Value)) (q : Option Nat) (v : Value) : ∀ p ∈ vput D q v,p.2 = v \/ p ∈ D := by
 induction D with
 | nil => intro p hp;rw [vput,List.mem_singleton] at hp;subst hp;exact .inl rfl
 | cons d D ih =>
  intro p hp;rw [vput] at hp
  split at hp
  ·rcases List.mem_cons.1 hp with rfl | hp
   ·exact .inl rfl
   ·exact .inr (List.mem_cons_of_mem _ hp)
  ·rcases List.mem_cons.1 hp with rfl | hp
   ·exact .inr (List.mem_cons_self ..)
   ·rcases ih p hp with e | e
    ·exact .inl e
    ·exact .inr (List.mem_cons_of_mem _ e)
structure LrAt (w wr : World) (L : List PC) (D : List (Option Nat × Value)) (v : Value) : Prop where
 bel : Below w.heap.size w wr
 row : wr.ownsRow (w.heap.size + 1) 23 1 v L.length (L.map fun x => kPtr x.ptr)
 map : KnAt wr w.heap.size D
 old : ∀ p ∈ D,∀ a,p.1 = some a -> a < w.heap.size
theorem LrAt.lt {w wr : World} {L : List PC} {D : List (Option Nat × Value)} {v : Value} (h : LrAt w wr L D v) : w.heap.size + 1 <= wr.heap.size := by
 obtain ⟨es,c,h1,_⟩ := h.map.map;exact jS h1
theorem LrAt.below {w wr w' : World} {L : List PC} {D : List (Option Nat × Value)} {v : Value} (h : LrAt w wr L D v) (hb : Below wr.heap.size wr w') : LrAt w w' L D v :=
 ⟨h.bel.trans (hb.mono h.bel.size),ownsKeep h.row (grown_below none hb) (fun g _ e => by cases e),h.map.up hb,h.old⟩
theorem lr_at0 (w : World) (x : PC) : LrAt w ((w.alloc (.map #[] 0)).alloc (.cells #[kPtr x.ptr] 23)) [x] [] (.slice (some ⟨w.heap.size + 1,0,none⟩) 1 1) := by
 have b1 := below1 w (.map #[] 0);have b2 := below1 (w.alloc (.map #[] 0)) (.cells #[kPtr x.ptr] 23);have he := heap_new (w.alloc (.map #[] 0)) (.cells #[kPtr x.ptr] 23);rw [World.size_alloc] at he;exact ⟨b1.trans (b2.mono b1.size),⟨rfl,.inr ⟨_,1,_,rfl,jN _,he,by simp,by decide,rfl,rfl⟩⟩,⟨⟨#[],0,below_kept b2 (heap_new _ _),rfl⟩,fun _ h => (by cases h),fun _ h => (by cases h)⟩,fun _ h => (by cases h)⟩
theorem LrAt.last {w wr : World} {S : List PC} {x : PC} {D : List (Option Nat × Value)} {v : Value} (h : LrAt w wr (S ++ [x]) D v) :
  ∃ g cap,v = .slice (some ⟨g,0,none⟩) (S.length + 1) cap /\ S.length + 1 <= cap /\ cap <= maxLen /\ wr.cell? ⟨g,S.length,none⟩ = some (kPtr x.ptr) /\ LrAt w wr S D (.slice (some ⟨g,0,none⟩) S.length cap) := by
 have hl : (S ++ [x]).length = S.length + 1 := by simp
 rcases h.row.2 with ⟨_,h0⟩ | ⟨g,cap,cur,rfl,hb,hh,hn,hm,hs,ht⟩
 ·rw [hl] at h0;omega
 ·rw [hl] at hn ht ⊢;have key : ∀ j u,((S ++ [x]).map fun x => kPtr x.ptr)[j]? = some u -> wr.cell? ((⟨g,0,none⟩ : Addr).add j) = some u := h.row.cells (g := g) rfl;have ha : ∀ j,(⟨g,0,none⟩ : Addr).add j = ⟨g,j,none⟩ := fun j => by unfold Addr.add;split <;> simp_all
  have k0 := key S.length (kPtr x.ptr) (by simp);rw [ha] at k0;refine ⟨g,cap,rfl,hn,hm,k0,h.bel,⟨by simp,.inr ⟨g,cap,cur,rfl,hb,hh,by omega,hm,hs,?_⟩⟩,h.map,h.old⟩;have : (cur.toList.take ((S.length + 1) * 1)).take (S.length * 1) = ((S ++ [x]).map fun x => kPtr x.ptr).take (S.length * 1) := by rw [ht]
  rw [List.take_take,Nat.min_eq_left (by omega)] at this;rw [this,List.map_append,List.take_append_of_le_length (by simp),List.take_of_length_le (by simp)]
theorem LrAt.tell {w wr w1 : World} {L : List PC} {D D' : List (Option Nat × Value)} {v : Value} (h : LrAt w wr L D v) (hg : wr.grownBy w1 (some w.heap.size)) (hM : KnAt w1 w.heap.size D') (ho : ∀ p ∈ D',∀ a,p.1 = some a -> a < w.heap.size) : LrAt w w1 L D' v :=
 ⟨⟨hg.os.trans h.bel.os,hg.tape.trans h.bel.tape,hg.output.trans h.bel.output,Nat.le_trans h.bel.size hg.size,fun k hk => (hg.block k (Nat.lt_of_lt_of_le hk h.bel.size) (fun e => by have := Option.some.inj e;omega)).trans (h.bel.block k hk)⟩,ownsKeep h.row hg (fun g hb e => by have := (ownsLt h.row hb).1;have := Option.some.inj e;omega),hM,ho⟩
theorem LrAt.push {w wr w4 : World} {o : Obj} {L : List PC} {D : List (Option Nat × Value)} {v v4 : Value} {z : PC} (h : LrAt w wr L D v) (ho : w4.ownsRow (w.heap.size + 1) 23 1 v4 (L.length + 1) (L.map (fun x => kPtr x.ptr) ++ [kPtr z.ptr])) (hg : (wr.alloc o).grownBy w4 v.ownBlock) : LrAt w w4 (L ++ [z]) D v4 := by
 have hsz := h.bel.size;have hml := h.lt;have hne : ∀ k,k < w.heap.size + 1 -> some k ≠ v.ownBlock := fun k hk e => by have := (ownsLt h.row e.symm).1;omega
 have hY := below1 wr o;have hs4 := hg.size;have hYs := hY.size;refine ⟨⟨hg.os.trans (hY.os.trans h.bel.os),hg.tape.trans (hY.tape.trans h.bel.tape),hg.output.trans (hY.output.trans h.bel.output),by omega,fun k hk => (hg.block k (by omega) (hne k (by omega))).trans ((hY.block k (by omega)).trans (h.bel.block k hk))⟩,?_,?_,h.old⟩
 ·rw [List.map_append,List.length_append];exact ho
 ·obtain ⟨⟨es,c,h1,h2⟩,h3,h4⟩ := h.map;refine ⟨⟨es,c,(hg.block _ (by omega) (hne _ (by omega))).trans (below_kept hY h1),h2⟩,fun p hp a e => ?_,h4⟩;obtain ⟨cs,t,hc⟩ := h3 p hp a e;have ha := h.old p hp a e;exact ⟨cs,t,(hg.block a (by omega) (hne a (by omega))).trans (below_kept hY hc)⟩
theorem cf_lacks (args : Array Value) (W : World) : (callFunc 230 args).run Tryz.prog W = .ok (.enter 230 args) W := by
 simp [callFunc,Tryz.func230,mark,Sem.run];rfl
theorem cf_opened (args : Array Value) (W : World) : (callFunc 232 args).run Tryz.prog W = .ok (.enter 232 args) W := by
 simp [callFunc,Tryz.func232,mark,Sem.run];rfl
theorem Tryz.infoNp : (Tryz.prog.info? 23).map (fun i => (i.zero,i.size,i.bytes)) = some (some (.pointer none),1,8) := by kernel_rfl
structure Known (w0 w : World) (mb : Nat) (D : List (Option Nat × Value)) (x : PC) : Prop where
 map : KnAt w mb D
 kn : LrK w0 w [] D
 root : ∃ q,x.ptr = some q /\ dnD D q = true
def LrTo (w w' : World) (e : Ending) (x : PC) : Prop :=
 Below w.heap.size w w' /\ (((prtC x.co).places <= 600 /\ ∃ mb D,e = .returned (.tuple #[.map (some mb),.int .i64 0]) /\ Known w w' mb D x) \/ (600 < (prtC x.co).places /\ e = .returned (.tuple #[.map none,.int .i64 3])))
theorem PtrsAt.form {w : World} {v : Value} {ps : List (Option Nat)} (h : PtrsAt w v ps) : ∃ np,v = .slice np ps.length ps.length /\ ∀ i,i < ps.length -> ∃ c,np = some ⟨c,0,none⟩ /\ c < w.heap.size /\ w.cell? ⟨c,i,none⟩ = some (kPtr (ps.getD i none)) := by
 rcases h with ⟨rfl,rfl⟩ | ⟨g,rfl,hg⟩
 ·exact ⟨none,rfl,fun i hi => absurd hi (Nat.not_lt_zero _)⟩
 ·refine ⟨_,rfl,fun i hi => ⟨g,rfl,jS hg,(jC hg i).trans ?_⟩⟩;simp [hi]
theorem innP_le (k : Int) (a b : Option Nat) : (innP k a b).length <= 2 := by
 unfold innP
 split
 ·exact jN _
 ·split
  ·exact Nat.le_succ _
  ·exact Nat.zero_le _
theorem innP_mem {k : Int} {a b : Option Nat} (i : Nat) : (innP k a b).getD i none = a \/ (innP k a b).getD i none = b \/ (innP k a b).getD i none = none := by
 unfold innP
 split
 ·match i with
  | 0 => exact .inl rfl
  | 1 => exact .inr (.inl rfl)
  | n + 2 => exact .inr (.inr rfl)
 ·split
  ·match i with
   | 0 => exact .inl rfl
   | n + 1 => exact .inr (.inr rfl)
  ·exact .inr (.inr rfl)
theorem KnAt.put {w w' : World} {mb : Nat} {D : List (Option Nat × Value)} {q : Nat} {n v : Int} {mf ml : Option Nat} (h : KnAt w mb D) (hm : VMap w' mb (vput D (some q) (.agg #[.int .i64 n,.int .i64 v,.map mf,.map ml]))) (hg : w.grownBy w' (some mb)) (hq : IsK w (some q)) : KnAt w' mb (vput D (some q) (.agg #[.int .i64 n,.int .i64 v,.map mf,.map ml])) := by
 have up : ∀ {p},IsK w p -> IsK w' p := fun {p} hp a e => by
  obtain ⟨c,t,hc⟩ := hp a e;refine ⟨c,t,(hg.block a (jS hc) (fun e2 => ?_)).trans hc⟩;obtain ⟨es,cl,h1,_⟩ := h.map;rw [<- Option.some.inj e2,hc] at h1
  cases h1
 refine ⟨hm,fun p hp => ?_,fun p hp => ?_⟩
 ·rcases vput_keys D _ _ p hp with e | ⟨p',h1,h2⟩
  ·rw [e];exact up hq
  ·rw [<- h2];exact up (h.keys p' h1)
 ·rcases vput_mem D _ _ p hp with e | e
  ·rw [e];exact ⟨_,_,_,_,rfl⟩
  ·exact h.vals p e
theorem path_split (r : List PC) (x : PC) : x :: r = (x :: r).dropLast ++ [lastP x r] := by
 rw [<- lastP_get,List.dropLast_concat_getLast]
theorem Known.prt {w0 w : World} {mb : Nat} {D : List (Option Nat × Value)} {x : PC} (h : Known w0 w mb D x) (hx : PCAt w0 x) : ∃ q v,x.ptr = some q /\ vgot D (some q) = some v /\ PrtAt w v (prtC x.co) /\ (prtC x.co).places <= 600 /\ ∀ z ∈ x.inn,∃ p,z.ptr = some p /\ dnD D p = true := by
 obtain ⟨q,h1,h2⟩ := h.root;obtain ⟨v,h3,h4⟩ := dnD_true h2;obtain ⟨y,g1,g2,g3,g4,g5⟩ := h.kn.done q v h3 h4;obtain rfl := g2.uniq hx (by rw [g1,h1]);exact ⟨q,v,h1,h3,g3,g4,g5⟩
theorem learn_any (w : World) (x : PC) (hx : PCAt w x) (hk : KoK x.co) (hs : x.sz <= 1000000000) :
  Calls Tryz.prog 203 #[kPtr x.ptr] w fun e w' => LrTo w w' e x := by
 obtain ⟨q0,k0,s0,z0,a0,b0,e0,_⟩ := hk.ptr;have hq0 : x.ptr = some q0 := by rw [e0];rfl
 obtain ⟨hK0,hP0⟩ := lr_start (w0 := w) (w := (w.alloc (.map #[] 0)).alloc (.cells #[kPtr x.ptr] 23)) hq0;have HK := qhid hK0;have HP := qhid hP0;have HM := qhid (lr_at0 w x);have HX := qhid hx;have HKO := qhid hk;have HS := qhid hs;have hmm := @run_makeMap Tryz.prog;obtain ⟨ap,hap⟩ : ∃ a : Option Addr,a = x.ptr.map fun a => (⟨a,0,none⟩ : Addr) := ⟨_,rfl⟩
 unfold kPtr at HM HK ⊢;rw [<- hap] at HM HK ⊢;have HAP := qhid hap;clear hx hk hs hK0 hP0 e0 hap
 go_enter Tryz.func203,Tryz.ntmps203
 go_wp2_with fail
 clear hmm
 go_loopg [5] (2 * x.sz) (fun gk l wr => ∃ (L : List PC) (D : List (Option Nat × Value)) (vp : Option Addr) (n vc : Nat),l = .slice vp n vc /\ Hid (L.length = n) /\ Hid (2 * x.nd (dnD D) <= gk + n) /\ Hid (LrAt w wr L D l) /\ Hid (LrK w wr L D) /\ Hid (LrP x L D))
 case atStart => exact ⟨_,_,_,1,1,rfl,qhid rfl,qhid (by have := PC.nd_sz (dnD []) x;omega),HM,HK,HP⟩
 case round =>
  clear HK HP HM;obtain ⟨L,D,vp,n,vc,rfl,HN,HG,HM,HK,HP⟩ := hrel
  by_cases h0 : n = 0
  ·subst h0;have hL : L = [] := List.length_eq_zero_iff.1 HN.out;subst hL
   go_wp2_with fail
   refine bodyPost_ret (v := .tuple #[.map (some w.heap.size),.int .i64 0]) (by simp [results,Tryz.results203,go_sem]) rfl ⟨HM.out.bel,.inl ?_⟩
   rcases HP.out with ⟨_,hr⟩ | ⟨r,hr,_⟩
   ·have hkn : Known w wr w.heap.size D x := ⟨HM.out.map,HK.out,hr⟩;obtain ⟨_,_,_,_,_,h6,_⟩ := hkn.prt HX.out;exact ⟨h6,_,_,rfl,hkn⟩
   ·cases hr
  ·obtain ⟨m,rfl⟩ : ∃ m,n = m + 1 := ⟨n - 1,by omega⟩
   obtain ⟨r,rfl,hd,hp⟩ : ∃ r,L = x :: r /\ (∃ q,x.ptr = some q /\ dnD D q = false) /\ IsPath (dnD D) x r := by
    rcases HP.out with ⟨e,_⟩ | h
    ·rw [e] at HN;have := HN.out;simp at this
    ·exact h
   obtain ⟨q,hcq,hdq⟩ := path_last r x hd hp;have hck := KoK.last r x HKO.out hp;have hcx : PCAt wr (lastP x r) := path_at r x (HX.out.up HM.out.bel) hp _ (lastP_mem r x);have hml : LrAt w wr ((x :: r).dropLast ++ [lastP x r]) D (.slice vp (m + 1) vc) := by rw [<- path_split];exact HM.out
   have hSl : (x :: r).dropLast.length = m := by rw [List.length_dropLast,HN.out];rfl
   obtain ⟨g,cap,hv,hcap,hcm,k0,hm'⟩ := hml.last;rw [hSl] at hcap k0 hm' hv;have e1 : vp = some ⟨g,0,none⟩ := by injection hv
   have e3 : vc = cap := by injection hv
   subst e1 e3;obtain ⟨q',k,s,z,a,b,ec,hk1,hk2⟩ := hck.ptr;obtain rfl : q' = q := by rw [ec] at hcq;exact Option.some.inj hcq
   have hnode : wr.heap[q']? = some (coOb k s z (kPtr a.ptr) (kPtr b.ptr)) := by rw [ec] at hcx;exact hcx.1
   rw [hcq] at k0;unfold kPtr at k0;obtain ⟨c0,c6,c7⟩ := co_cells hnode;have HC := qhid ec;have HCQ := qhid hcq;have HND := qhid hnode;have HCX := qhid hcx;have HPA := qhid hp;have HD := qhid hd;have HS' := qhid hm';have HCK := qhid hck;have HSL := qhid hSl
   have hm9 : m <= 1000000000 := by
    have h1 := path_nd r x hd hp;have h2 := PC.nd_sz (dnD D) x;have h3 := HN.out;have h4 := HS.out;simp only [List.length_cons] at h3;omega
   clear hcq hdq hck hcx hml hSl hm' hv ec hnode hp hd c6 c7 HP
   go_wp2_with fail
   refine (isnode_any wr q' k c0 ⟨hk1,hk2⟩).mono ?_;rintro e w1 ⟨rfl,hw1⟩;obtain rfl := hw1
   go_wp2_with fail
   refine (within_any w1 q' k s z a.ptr b.ptr HND.out ⟨hk1,hk2⟩).mono ?_;rintro e w2 ⟨iv,rfl,hps,hb1⟩;obtain ⟨np,rfl,hus⟩ := hps.form;have hcx2 := HCX.out.up hb1;have hpab : PCAt w2 a /\ PCAt w2 b := by rw [HC.out] at hcx2;exact hcx2.2
   have HIK : Hid (∀ i X,Below w2.heap.size w2 X -> IsK X ((innP k a.ptr b.ptr).getD i none)) := qhid (fun i X hb => by
    rcases innP_mem (k := k) (a := a.ptr) (b := b.ptr) i with e | e | e
    ·rw [e];exact isK_up hpab.1.isK hb
    ·rw [e];exact isK_up hpab.2.isK hb
    ·rw [e];intro c e2;cases e2)
   have HINN : Hid (∀ i,i < (innP k a.ptr b.ptr).length -> ∃ zz p,zz ∈ (lastP x r).inn /\ zz.ptr = some p /\ (innP k a.ptr b.ptr).getD i none = some p) := qhid (fun i hi => by
    have e := PC.inn_ptr q' k s z a b;rw [<- HC.out] at e;have hl : i < (lastP x r).inn.length := by rw [<- e,List.length_map] at hi;exact hi
    obtain ⟨q2,_,_,_,_,_,e2,_⟩ := (HCK.out.inn (List.getElem_mem hl)).ptr;refine ⟨_,q2,List.getElem_mem hl,by rw [e2];rfl,?_⟩;rw [<- e,List.getD_eq_getElem?_getD,List.getElem?_map,List.getElem?_eq_getElem hl]
    show ((lastP x r).inn[i]).ptr = some q2
    rw [e2]
    rfl)
   obtain ⟨ln,hln⟩ : ∃ n,n = (innP k a.ptr b.ptr).length := ⟨_,rfl⟩;have hl2 : ln <= 2 := hln ▸ innP_le _ _ _;rw [<- hln] at hus HINN ⊢;have HM2 := qhid (HM.out.below hb1);have HK2 := qhid (HK.out.up hb1);have HCX2 := qhid hcx2;have HPAB := qhid hpab;have HND2 := qhid (below_kept hb1 HND.out);have HS2 := qhid (HS'.out.below hb1);have HUS := qhid hus;have HIX := qhid (windexf_any np ln ln (fun i => kPtr ((innP k a.ptr b.ptr).getD i none)) 230 (.map (some w.heap.size)) (fun i => (vgot D ((innP k a.ptr b.ptr).getD i none)).isNone) w2 cf_lacks (by omega) hus (fun X i hb hi => lacks_any X w.heap.size D _ (HM2.out.map.up hb) (HIK.out i X hb)))
   have HQW : Hid (q' < w.heap.size) := qhid (by
    have h1 := path_at r x HX.out HPA.out _ (lastP_mem r x);rw [HC.out] at h1
    exact jS h1.1)
   have HGK : Hid (m + 1 <= gk) := qhid (by
    have h1 := path_nd r x HD.out HPA.out;have h2 := HG.out;have h3 := HN.out;simp only [List.length_cons] at h3
    omega)
   have HLN := qhid hln;clear hps hus hcx2 hpab hb1 hln HM HK HCX HND HS' c0 k0
   go_wp2_with fail
   refine HIX.out.mono ?_;rintro e w3 ⟨r',rfl,hr,hb2⟩;have HM3 := qhid (HM2.out.below hb2);have HK3 := qhid (HK2.out.up hb2);have HCX3 := qhid (HCX2.out.up hb2);have HPAB3 : Hid (PCAt w3 a /\ PCAt w3 b) := qhid ⟨HPAB.out.1.up hb2,HPAB.out.2.up hb2⟩;have HND3 := qhid (below_kept hb2 HND2.out);have HS3 := qhid (HS2.out.below hb2);have HB2 := qhid hb2;clear hb2 HM2 HK2 HCX2 HPAB HND2 HS2 HIX
   rcases hr with ⟨rfl,hall⟩ | ⟨j,hj,rfl,hjn⟩
   ·have HALL : Hid (∀ zz ∈ (lastP x r).inn,∃ p v,zz.ptr = some p /\ vgot D (some p) = some v /\ prtN v ≠ -1 /\ PrtAt w3 v (prtC zz.co) /\ (prtC zz.co).places <= 600) := qhid (fun zz hz => by
     obtain ⟨i,hi,rfl⟩ := List.getElem_of_mem hz;have e := PC.inn_ptr q' k s z a b;rw [<- HC.out] at e;have hi2 : i < ln := by rw [HLN.out,<- e,List.length_map];exact hi
     obtain ⟨q2,_,_,_,_,_,e2,_⟩ := (HCK.out.inn hz).ptr;have e3 : ((lastP x r).inn[i]).ptr = some q2 := by rw [e2];rfl
     have h : (vgot D ((innP k a.ptr b.ptr).getD i none)).isNone = false := hall i hi2;rw [<- e,List.getD_eq_getElem?_getD,List.getElem?_map,List.getElem?_eq_getElem hi] at h;simp only [Option.map_some,Option.getD_some,e3] at h
     cases hv : vgot D (some q2) with
     | none => rw [hv] at h;cases h
     | some v =>
      obtain ⟨g1,g2,g3⟩ := lr_inner HK3.out HX.out HPA.out hz e3 hv
      exact ⟨q2,v,e3,hv,g1,g2,g3⟩)
    have hus3 : ∀ i,i < ln -> ∃ c,np = some ⟨c,0,none⟩ /\ c < w3.heap.size /\ w3.cell? ⟨c,i,none⟩ = some (kPtr ((innP k a.ptr b.ptr).getD i none)) := fun i hi => by
     obtain ⟨c,h1,h2,h3⟩ := HUS.out i hi;exact ⟨c,h1,Nat.lt_of_lt_of_le h2 HB2.out.size,(World.cell?_of_block (w := w2) (a := ⟨c,i,none⟩) (HB2.out.block c h2)).trans h3⟩
    have HCT := qhid (wcontainsf_any np ln ln (fun i => kPtr ((innP k a.ptr b.ptr).getD i none)) 232 (.map (some w.heap.size)) (fun _ => false) w3 cf_opened (by omega) hus3 (fun X i hb hi => by
     obtain ⟨zz,p,hz,hzp,hpj⟩ := HINN.out i hi;obtain ⟨p',v,g1,g2,g3,⟨mf,ml,rfl,_⟩,_⟩ := HALL.out zz hz;obtain rfl : p' = p := by rw [hzp] at g1;exact (Option.some.inj g1).symm
     have hik := HIK.out i X ((HB2.out.trans (hb.mono HB2.out.size)))
     show Calls _ _ #[_,kPtr ((innP k a.ptr b.ptr).getD i none)] X _
     rw [hpj] at hik ⊢;refine (opened_any X w.heap.size D (some p') _ _ mf ml (HM3.out.map.up hb) hik (by rw [g2];rfl)).mono ?_;rintro e w' ⟨rfl,rfl⟩
     exact ⟨by rw [jF (by omega)],Below.refl _ _⟩))
    clear hall hus3
    go_wp2_with fail
    refine HCT.out.mono ?_;rintro e w4 ⟨bb,rfl,hbb,hb4⟩
    obtain rfl : bb = false := by
     cases bb with
     | false => rfl
     | true =>
      obtain ⟨_,_,h⟩ := hbb.1 rfl
      cases h
    have HM4 := qhid (HM3.out.below hb4);have HK4 := qhid (HK3.out.up hb4);have HND4 := qhid (below_kept hb4 HND3.out);have HPAB4 : Hid (PCAt w4 a /\ PCAt w4 b) := qhid ⟨HPAB3.out.1.up hb4,HPAB3.out.2.up hb4⟩;have HS4 := qhid (HS3.out.below hb4);have HCX4 := qhid (HCX3.out.up hb4)
    have HALL4 : Hid (∀ zz ∈ (lastP x r).inn,∃ p v,zz.ptr = some p /\ vgot D (some p) = some v /\ prtN v ≠ -1 /\ PrtAt w4 v (prtC zz.co) /\ (prtC zz.co).places <= 600) := qhid (fun zz hz => by
     obtain ⟨p,v,g1,g2,g3,g4,g5⟩ := HALL.out zz hz
     exact ⟨p,v,g1,g2,g3,g4.up hb4,g5⟩)
    have HMA : Hid (k = 2 \/ k = 3 \/ k = 4 -> a ∈ (lastP x r).inn) := qhid (fun h => by
     rw [HC.out,PC.inn]
     split
     ·exact List.mem_cons_self ..
     ·rw [if_pos (by omega)]
      exact List.mem_cons_self ..)
    have HMB : Hid (k = 2 \/ k = 3 -> b ∈ (lastP x r).inn) := qhid (fun h => by
     rw [HC.out,PC.inn,if_pos h]
     exact List.mem_cons_of_mem _ (List.mem_cons_self ..))
    have HPR : Hid (mkP k (prtC a.co) (prtC b.co) = prtC (lastP x r).co) := qhid (by rw [HC.out];exact (prt_node k s z a.co b.co).symm)
    have HMD := qhid (made_any w4 w.heap.size q' D k s z a.ptr b.ptr (prtC a.co) (prtC b.co) ⟨hk1,hk2⟩ HND4.out HM4.out.map HPAB4.out.1.isK HPAB4.out.2.isK
     (fun h => by
      obtain ⟨p,v,g1,g2,g3,g4,g5⟩ := HALL4.out a (HMA.out h);rw [g1,g2]
      exact g4)
     (fun h => by
      obtain ⟨p,v,g1,g2,g3,g4,g5⟩ := HALL4.out b (HMB.out h);rw [g1,g2]
      exact g4)
     (prt_ok _) (prt_ok _)
     (fun h => by
      obtain ⟨p,v,g1,g2,g3,g4,g5⟩ := HALL4.out a (HMA.out (by omega))
      omega)
     (fun h => by
      obtain ⟨p,v,g1,g2,g3,g4,g5⟩ := HALL4.out b (HMB.out h)
      omega))
    rw [HPR.out] at HMD;clear hbb hb4 HM3 HK3 HND3 HPAB3 HS3 HCX3 HALL HCT HUS HIK HINN HMA HMB
    go_wp2_with fail
    refine HMD.out.mono ?_;rintro e w5 ⟨mf,ml,rfl,hpf,hpl,hb5⟩;have HM5 := qhid (HM4.out.below hb5);have HS5 := qhid (HS4.out.below hb5);have hisq : IsK w5 (some q') := by have := (HCX4.out.up hb5).isK;rw [HCQ.out] at this;exact this
    obtain ⟨w6,hup,hvm,hg6⟩ := vupdate_ptr (.agg #[.int .i64 ((prtC (lastP x r).co).places : Int),.int .i64 (prtC (lastP x r).co).void,.map mf,.map ml]) HM5.out.map.map (q := some q') hisq HM5.out.map.keys;have hup : (Instr.mapUpdate 287 (.map (some w.heap.size)) (.pointer (some ⟨q',0,none⟩)) (.agg #[.int .i64 ((prtC (lastP x r).co).places : Int),.int .i64 (prtC (lastP x r).co).void,.map mf,.map ml])).run Tryz.prog w5 = .ok () w6 := hup;have hkn6 := HM5.out.map.put hvm hg6 hisq
    have hold : ∀ pp ∈ vput D (some q') (.agg #[.int .i64 ((prtC (lastP x r).co).places : Int),.int .i64 (prtC (lastP x r).co).void,.map mf,.map ml]),∀ a,pp.1 = some a -> a < w.heap.size := fun pp hpp a e => by
     rcases vput_keys D _ _ pp hpp with e2 | ⟨p',h1,h2⟩
     ·rw [e2] at e;rw [<- Option.some.inj e];exact HQW.out
     ·exact HM5.out.old p' h1 a (h2.trans e)
    have HS6 := qhid (HS5.out.tell hg6 hkn6 hold)
    have hisq6 : IsK w6 (some q') := by
     obtain ⟨v,hv⟩ : ∃ v,(some q',v) ∈ vput D (some q') (.agg #[.int .i64 ((prtC (lastP x r).co).places : Int),.int .i64 (prtC (lastP x r).co).void,.map mf,.map ml]) := ⟨_,vgot_mem (by rw [vgot_put,if_pos rfl])⟩;exact hkn6.keys _ hv
    have hl6 := vlookup_at hkn6.map hisq6 hkn6.keys (zeroPart w6);rw [vgot_put,if_pos rfl,Option.getD_some] at hl6;unfold kPtr at hl6;simp only [Option.map_some] at hl6;have HPV : Hid (PrtAt w5 (.agg #[.int .i64 ((prtC (lastP x r).co).places : Int),.int .i64 (prtC (lastP x r).co).void,.map mf,.map ml]) (prtC (lastP x r).co)) := qhid ⟨mf,ml,rfl,hpf,hpl⟩;have HB5 := qhid hb5;have HG6 := qhid hg6;have HVM5 := qhid HM5.out.map.map;obtain ⟨pn,hpn⟩ : ∃ n,n = (prtC (lastP x r).co).places := ⟨_,rfl⟩;obtain ⟨pv,hpv⟩ : ∃ n,n = (prtC (lastP x r).co).void := ⟨_,rfl⟩;rw [<- hpn,<- hpv] at hup hl6 HPV HS6 ⊢;have HPN := qhid hpn;have HPVV := qhid hpv;have hfd := part_field;clear hpf hpl hb5 hisq hvm hg6 hkn6 hold hisq6 HM5 HS5 HMD hpn hpv
    by_cases h6 : pn <= 600
    ·have h6' : ¬ ((600 : Int) < (pn : Int)) := by omega
     have hwm : wrap64 (m : Int) = (m : Int) := by simp [wrap64];omega
     have hmc : m <= vc := by omega
     go_wp2_with fail
     go_roundg (gk - 1)
     case rel =>
      have hin : ∀ zz ∈ (lastP x r).inn,∃ p,zz.ptr = some p /\ dnD D p = true := fun zz hz => by
       obtain ⟨p,v,g1,g2,g3,_⟩ := HALL4.out zz hz;exact ⟨p,g1,by rw [dnD_some g2,jT g3]⟩
      obtain ⟨hk',hp',hlt⟩ := lr_done (HK4.out) HB5.out HX.out HD.out HPA.out HCQ.out hin HPV.out (by rw [<- HPN.out];exact h6);refine ⟨(x :: r).dropLast,_,_,m,vc,rfl,HSL,qhid ?_,HS6,qhid (hk'.tell HVM5.out HG6.out),qhid hp'⟩;have := HG.out;have := HGK.out;omega
     case measure => have := HGK.out;omega
    ·have h6' : (600 : Int) < (pn : Int) := by omega
     go_wp2_with fail
     refine bodyPost_ret (v := .tuple #[.map none,.int .i64 3]) (by simp [results,Tryz.results203,go_sem]) rfl ⟨HS6.out.bel,.inr ⟨?_,rfl⟩⟩;have := path_places r x HPA.out;have := HPN.out;omega
   ·obtain ⟨zz,p,hz,hzp,hpj⟩ := HINN.out j hj
    have hvn : vgot D (some p) = none := by
     have h : (vgot D ((innP k a.ptr b.ptr).getD j none)).isNone = true := hjn;rw [hpj] at h;simpa using h
    obtain ⟨c,hnp,hcl,hce⟩ := HUS.out j hj;subst hnp;rw [hpj] at hce;have hisq : IsK w3 (some q') := by have := HCX3.out.isK;rw [HCQ.out] at this;exact this
    obtain ⟨w4,hup,hvm,hg4⟩ := vupdate_ptr openV HM3.out.map.map (q := some q') hisq HM3.out.map.keys;have hup : (Instr.mapUpdate 287 (.map (some w.heap.size)) (.pointer (some ⟨q',0,none⟩)) (.agg #[.int .i64 (-1),.int .i64 0,.map none,.map none])).run Tryz.prog w3 = .ok () w4 := hup;have hce3 : w3.cell? ⟨c,j,none⟩ = some (.pointer (some ⟨p,0,none⟩)) := (World.cell?_of_block (w := w2) (a := ⟨c,j,none⟩) (HB2.out.block c hcl)).trans hce
    have hcm : c ≠ w.heap.size := fun e => by
     obtain ⟨es,cl,h1,_⟩ := HM3.out.map.map;rw [e] at hce3;simp [World.cell?,h1] at hce3
    have hce4 : w4.cell? ⟨c,j,none⟩ = some (.pointer (some ⟨p,0,none⟩)) := hg4.cell hce3 (fun e => hcm (Option.some.inj e));obtain ⟨hK',hP',hdn⟩ := lr_push HK3.out HD.out HPA.out HCQ.out hz hzp hvn
    have HM4 := qhid (HM3.out.tell hg4 (HM3.out.map.put hvm hg4 hisq) (fun pp hpp a e => by
     rcases vput_keys D _ _ pp hpp with e2 | ⟨p',h1,h2⟩
     ·rw [e2] at e;rw [<- Option.some.inj e];exact HQW.out
     ·exact HM3.out.old p' h1 a (h2.trans e)))
    have HK4 := qhid (hK'.tell HM3.out.map.map hg4);have HP4 := qhid hP';have HDN := qhid hdn;have HZP := qhid hzp;have HROW : Hid (w4.ownsRow (w.heap.size + 1) 23 1 (.slice (some ⟨g,0,none⟩) (m + 1) vc) (m + 1) ((x :: r).map fun x => kPtr x.ptr)) := qhid (by have := HM4.out.row;rwa [HN.out] at this)
    have HOB : Hid (∃ cs t fr,w4.heap[g]? = some (.cells cs t fr)) := qhid (by
     rcases HROW.out.2 with ⟨h,_⟩ | ⟨g2,cap2,cur,h,_,hh,_⟩
     ·cases h
     ·injection h with h;injection h with h;injection h with h;rw [h]
      exact ⟨_,_,_,hh⟩)
    have hsz4 := HM4.out.lt;obtain ⟨i0,hif,hz0,hz1,hz2⟩ := info_parts Tryz.infoNp;clear hz hzp hpj hjn hvn hcl hce hisq hvm hg4 hce3 hcm hK' hP' hdn HINN
    go_wp2_with (at_builtin;go_must (refine wpList_append_own_at _ rfl (.tmp 35) (.tmp 40) 152 rfl (w.heap.size + 1) 23 i0 (.pointer none) 1 8 Tryz.underlying152 hif hz0 hz1 hz2 rfl (by decide) (.slice (some ⟨g,0,none⟩) (m + 1) vc) (m + 1) ((x :: r).map fun x => kPtr x.ptr) rfl (ownsAlloc HROW.out _) ⟨_,0,none⟩ 1 1 _ rfl rfl (cell_one_new _ _ _) (one_ptr _) (by unfold maxLen;omega) (by omega) (by simp;omega) ?_;intro v5 w5 ho hg5 _ _;have HM5 := qhid (HM4.out.push (o := .cells #[.pointer (some ⟨p,0,none⟩)] 23) (z := zz) (by rw [HN.out,HZP.out];exact ho) hg5);obtain ⟨g5,cap5,hv5,_,_⟩ := ho.form (by omega);subst hv5;have HG5 := qhid hg5;clear ho hg5))
    go_wp2_with fail
    go_roundg (gk - 1)
    case rel =>
     refine ⟨_,_,_,m + 1 + 1,cap5,rfl,qhid (by rw [List.length_append,HN.out];rfl),qhid ?_,HM5,qhid ?_,?_⟩
     ·have := HG.out;have := HGK.out;rw [HDN.out];omega
     ·refine (HK4.out.up (below1 w4 _)).cells HG5.out (fun g' e => ?_);obtain ⟨cs,t,fr,hh⟩ := HOB.out;rw [<- Option.some.inj e];exact ⟨cs,t,fr,Reg.heap_kept_up hh (below1 w4 _)⟩
     ·exact HP4
    case measure => have := HGK.out;omega
end
end
end Go.Proofs.YtnmalggmbeipaaaGreatDoor
