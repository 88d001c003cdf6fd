/- A part of the proof. -/
import Derived.Test.YtlmcgbieobklhaaGreatDoorEl
import Derived.Test.YtlmcgbieobklhaaGreatDoorRgV0
import Derived.Deep.RegionLaw
import Derived.Maps.OwnIn
import Derived.Sort.CutIn
set_option maxRecDepth 100000
set_option maxHeartbeats 16000000
namespace Go.Proofs.YtlmcgbieobklhaaGreatDoor
section
open Go Go.RowKit Go.Shelf
attribute [local go_sem ↓] Go.wp_at_zero Go.wp_at_succ
attribute [local go_sem] eq4
attribute [local go_sem] Oper.semAt_some
def setOf : Tr -> List W4
 | .mk k s _ _ _ _ _ _ => if k = 1 then [s] else []
theorem setsT_eq (t : Tr) : setsT t = setOf t ++ setsTs (prts t) := by
 cases t;rfl
theorem step_append_ownS {P : Program} {ops : Array Oper} {o : Oper} {a : Act} {w : World} {K : Act -> World -> Prop} {Q : Exit -> Act -> World -> Prop} {E : Prop}
  (hgd : o.guard = none) (s x : Operand) (t : TypeId) (ho : o.op = .call { callee := .builtin .append,args := #[s,x],argTypes := #[t,t] })
  (base : Nat) (e : TypeId) (i : TypeInfo) (z : Value) (size bytes : Nat) (ht : P.underlying t = some (.slice e)) (hi : P.info? e = some i) (hz : i.zero = some z)
  (hsize : i.size = size) (hby : i.bytes = bytes) (hzs : z.cells.size = size) (hsz : 0 < size)
  (v : Value) (n : Nat) (xs : List Value) (hs : a.eval s = v) (hown : w.ownsRow base e size v n xs)
  (ad : Addr) (m c : Nat) (news : List Value) (hx : a.eval x = .slice (some ad) m c) (hl : news.length = m * size) (hnews : ∀ j u,news[j]? = some u -> w.cell? (ad.add j) = some u) (h1 : ∀ u ∈ news,u.oneCell' = true)
  (h63 : n + m <= maxLen) (hbytes : (n + m) * bytes <= 140737488355328) (hbase : base <= w.heap.size)
  (h : ∀ v' w',w'.ownsRow base e size v' (n + m) (xs ++ news) -> w.grownBy w' v.ownBlock -> (v' = .slice none 0 0 ↔ v = .slice none 0 0 /\ m = 0) -> (v'.ownBlock = v.ownBlock \/ v'.ownBlock = some w.heap.size) -> K (a.put o.dst v') w') :
  if Region.wanted o (yielded ops a.tmps) = true then Oper.wp P o a w K Q else E := by
 have hw : Region.wanted o (yielded ops a.tmps) = true := by simp [Region.wanted,hgd]
 rw [if_pos hw];obtain ⟨v',w',hr,h2,h3,h4,h5⟩ := run_append_own_at (P := P) w base t o.type e i z size bytes ht hi hz hsize hby hzs hsz v n xs hown ad m c news hl hnews h1 h63 hbytes hbase;unfold Oper.wp execOp;simp only [ho,resolve,invoke,builtin,Sem.run_bind,Sem.run_pure,Result.andThen_ok,List.map_toArray,List.map_cons,List.map_nil,hs,hx,hr];exact h v' w' h2 h3 h4 h5
def SetStep (n0 lB : Nat) (w : World) (v : Value) (L' : List W4) (w' : World) : Prop :=
 ∃ v' wa wm,w.grownBy wa none /\ wa.grownBy wm v.ownBlock /\ wm.grownBy w' (some lB) /\ Boxed w' lB 37 v' /\ w'.ownsRow n0 29 4 v' L'.length (flatS L')
theorem grown_refl (w : World) (r : Option Nat) : w.grownBy w r := ⟨rfl,rfl,rfl,jN _,fun _ _ _ => rfl⟩
theorem SetStep.same {n0 lB : Nat} {w : World} {v : Value} {L : List W4} (hb : Boxed w lB 37 v) (hr : w.ownsRow n0 29 4 v L.length (flatS L)) : SetStep n0 lB w v L w :=
 ⟨v,w,w,grown_refl _ _,grown_refl _ _,grown_refl _ _,hb,hr⟩
theorem sets1_any (A : Nat -> Prop) (t : Tr) (q lB n0 : Nat) (v : Value) (L : List W4) (w : World) (hn : NdAt w A t (ndPtr q)) (hb : Boxed w lB 37 v) (hr : w.ownsRow n0 29 4 v L.length (flatS L)) (hl : L.length <= 1048577000) (hn0 : n0 <= w.heap.size) :
  Calls Tryz.prog 35 #[ndPtr q,.pointer (some ⟨lB,0,none⟩)] w fun e w' => e = .returned (.tuple #[]) /\ SetStep n0 lB w v (L ++ setOf t) w' := by
 obtain ⟨k,s,lo,hi,z,a,b,l⟩ := t;obtain ⟨q',p,cap,e,_,hq,_⟩ := hn.head;injection e with e;injection e with e;injection e with e;subst e;have x0 := jC hq 0;have x1 := jC hq 1;have x2 := jC hq 2;have x3 := jC hq 3;have x4 := jC hq 4;have hql := jS hq;simp only [Reg.la,Reg.lb,Reg.lc] at x0 x1 x2 x3 x4;have hbc := hb.cell;have hbf := hb.frozen;have hbl := hb.lt;have HB := qhid hb;have HR := qhid hr;clear hn hq hb hr
 by_cases h1 : k = 1
 ·subst h1;obtain ⟨i0,hif,hy0,hy1,hy2⟩ := info_parts Tryz.infoSt;have HO : Hid ((w.drew.alloc (.cells #[.int .u64 s.a,.int .u64 s.b,.int .u64 s.c,.int .u64 s.d] 29)).ownsRow n0 29 4 v L.length (flatS L)) := qhid (ownsAlloc (show w.drew.ownsRow n0 29 4 v L.length (flatS L) from HR.out) _);have HBD : Hid (Boxed (w.drew.alloc (.cells #[.int .u64 s.a,.int .u64 s.b,.int .u64 s.c,.int .u64 s.d] 29)) lB 37 v) := qhid ((show Boxed w.drew lB 37 v from HB.out).alloc _)
  go_enter Tryz.func35,Tryz.ntmps35
  go_wp2_with fail
  go_region_law (first | (refine step_append_ownS rfl (.tmp 8) (.tmp 13) 37 rfl n0 29 i0 (.agg #[.int .u64 0,.int .u64 0,.int .u64 0,.int .u64 0]) 4 32 Tryz.underlying37 hif hy0 hy1 hy2 rfl (by decide) v L.length (flatS L) rfl HO.out ⟨_,0,none⟩ 1 1 (flatS [s]) rfl rfl (cell_st_at _ _ s _ (by simp)) (flatS_one _) (by unfold maxLen;omega) (by omega) (by simp;omega) ?_;intro v4 w4 ho hg4 _ hat;have hv4 := HBD.out.kept hg4 (HBD.out.not_row (by decide) HO.out);have hc4 := hv4.cell;have hf4 := hv4.frozen;obtain ⟨b4,c4,hs4⟩ : ∃ b c,v4 = .slice b (L.length + 1) c := row_slice ho;subst hs4;have HV4 := qhid (And.intro hv4 (And.intro ho hg4));clear hv4 ho hg4 hat) | fail)
  all_goals
   go_end0
   obtain ⟨hv4,ho,hg4⟩ := HV4.out
   exact ⟨rfl,_,_,_,grown_below none ((Below.drew (Below.refl _ _)).alloc (jN _) _),hg4,grownBy_setCell' _ _ _,hv4.set _,by
    rw [show (L ++ setOf _) = L ++ [s] from rfl,flatS_append];have := ho.kept (grownBy_setCell' w4 lB (.slice b4 (L.length + 1) c4)) (.inr (hv4.not_row (by decide) ho).symm)
    simpa using this⟩
 ·have hkb : ((k : Int) == 1) = false := by simpa using h1
  have HS : Hid (SetStep n0 lB w v (L ++ setOf (.mk k s lo hi z a b l)) w) := qhid (by rw [show setOf (.mk k s lo hi z a b l) = [] from if_neg h1,List.append_nil];exact SetStep.same HB.out HR.out);clear h1
  go_enter Tryz.func35,Tryz.ntmps35
  go_wp2_with fail
  go_end0
  exact ⟨rfl,HS.out⟩
structure EachC (lB eB : Nat) (w W : World) (n : Nat) (xs : List Value) (L : List W4) (ml : List Nat) (p : Option Addr) (cap : Nat) (lv : Value) : Prop where
 le : lB <= eB
 bx : Boxed W eB 58 (.slice p n cap)
 row : W.ownsRow lB 23 1 (.slice p n cap) n xs
 lb : Boxed W lB 37 lv
 lr : W.ownsRow lB 29 4 lv L.length (flatS L)
 mks : MarksAt lB ml W
 be : Below lB w W
theorem ne_box {W : World} {B B' t t' : Nat} {v v' : Value} (h : Boxed W B t v) (h' : Boxed W B' t' v') (ht : t ≠ t') : B ≠ B' := by
 rintro rfl;have := (show W.heap[B]? = _ from h).symm.trans h';simp at this;exact ht this.2
theorem EachC.set {lB eB : Nat} {w W : World} {n n' : Nat} {xs xs' : List Value} {L : List W4} {ml : List Nat} {p p' : Option Addr} {cap cap' : Nat} {lv : Value} (h : EachC lB eB w W n xs L ml p cap lv) (hr : W.ownsRow lB 23 1 (.slice p' n' cap') n' xs') :
  EachC lB eB w (W.setCell ⟨eB,0,none⟩ (.slice p' n' cap')) n' xs' L ml p' cap' lv :=
 ⟨h.le,h.bx.set _,hr.kept (grownBy_setCell' _ _ _) (.inr (h.bx.not_row (by decide) hr).symm),h.lb.kept (grownBy_setCell' _ _ _) (fun e => ne_box h.lb h.bx (by decide) (Option.some.inj e)),
  h.lr.kept (grownBy_setCell' _ _ _) (.inr (h.bx.not_row (by decide) h.lr).symm),h.mks.grown (grownBy_setCell' _ _ _) (fun r e => by cases e;exact ⟨_,h.bx,rfl⟩),h.be.setCell (p := ⟨eB,0,none⟩) h.le _⟩
theorem EachC.below {lB eB : Nat} {w W W' : World} {n : Nat} {xs : List Value} {L : List W4} {ml : List Nat} {p : Option Addr} {cap : Nat} {lv : Value} (h : EachC lB eB w W n xs L ml p cap lv) (hb : Below W.heap.size W W') : EachC lB eB w W' n xs L ml p cap lv := by
 have hg := grown_below none hb;have hlb := h.lb.lt;exact ⟨h.le,h.bx.kept hg (by simp),ownsBelow h.row hb,h.lb.kept hg (by simp),ownsBelow h.lr hb,h.mks.grown hg (fun r e => by cases e),h.be.trans (hb.mono (by omega))⟩
theorem EachC.visit {lB eB : Nat} {w W W5 : World} {n : Nat} {xs : List Value} {L L' : List W4} {ml : List Nat} {p : Option Addr} {cap : Nat} {lv : Value} (h : EachC lB eB w W n xs L ml p cap lv) (hs : SetStep lB lB W lv L' W5) :
  ∃ lv',EachC lB eB w W5 n xs L' ml p cap lv' := by
 obtain ⟨v',wa,wm,g1,g2,g3,hb,hr⟩ := hs;have hlb := h.lb.lt;have ba : Boxed wa eB 58 (.slice p n cap) := h.bx.kept g1 (by simp);have ra := ownsKeep h.row g1 (fun g _ e => by cases e);have la := h.lb.kept g1 (by simp);have lra := ownsKeep h.lr g1 (fun g _ e => by cases e);have ma := h.mks.grown g1 (fun r e => by cases e);have bea : Below lB w wa := h.be.grown g1 (by omega) (fun k e => by cases e);have s1 := g1.size;have bm : Boxed wm eB 58 (.slice p n cap) := ba.kept g2 (ba.not_row (by decide) lra);have rm := ownsKeep ra g2 (fun g e e' => rows_apart (by decide) ra lra g e e');have lm := la.kept g2 (la.not_row (by decide) lra);have mm := ma.grown g2 (row_isCells lra);have bem : Below lB w wm := bea.grown g2 (by omega) (fun k e => (ownsLt lra e).1);have s2 := g2.size
 exact ⟨v',h.le,bm.kept g3 (fun e => ne_box lm bm (by decide) (Option.some.inj e).symm),ownsKeep rm g3 (fun g e e' => lm.not_row (by decide) rm (e'.trans e.symm)),hb,hr,
  mm.grown g3 (fun r e => by cases e;exact ⟨_,lm,rfl⟩),bem.grown g3 (by omega) (fun k e => by cases e;exact jN _)⟩
structure EachI (A : Nat -> Prop) (t : Tr) (lB eB : Nat) (w : World) (m : Nat) (W : World) (S : List (Nat × Tr)) (L : List W4) (ml : List Nat) (p : Option Addr) (cap : Nat) (lv : Value) : Prop where
 c : EachC lB eB w W S.length (S.map fun x => .pointer (some ⟨x.1,0,none⟩)) L ml p cap lv
 mb : m <= 1048577000
 sz : (S.map fun x => trSize x.2).sum = m
 nd : ∀ x ∈ S,NdAt w A x.2 (ndPtr x.1)
 st : L ++ setsTs ((S.map fun x => x.2).reverse) = setsT t
def EachR (A : Nat -> Prop) (t : Tr) (q lB eB gB sz : Nat) (w : World) (m : Nat) (a : Act) (W : World) : Prop :=
 ∃ (S : List (Nat × Tr)) (L : List W4) (ml : List Nat) (p : Option Addr) (cap : Nat) (lv : Value) (u6 u19 u20 u21 u22 u23 u24 u25 u26 u27 u28 u29 u30 u31 u32 u33 u34 u35 u36 u37 u38 u39 u40 u41 u42 : Value),
  a = { tmps := List.toArray (ndPtr q :: .func (.func 35) #[] #[.pointer (some ⟨lB,0,none⟩)] :: undef :: undef :: .int .i64 (sz : Int) :: .pointer (some ⟨eB,0,none⟩) :: u6 :: undef :: undef :: ndPtr q :: .int .i64 (sz : Int) :: .int .i64 (sz : Int) :: .bool false :: .bool false :: .int .i64 (sz : Int) :: .bool false :: .bool false :: ndPtr q :: .slice (some ⟨gB,0,none⟩) 1 1 :: u19 :: u20 :: u21 :: u22 :: u23 :: u24 :: u25 :: u26 :: u27 :: u28 :: u29 :: u30 :: u31 :: u32 :: u33 :: u34 :: u35 :: u36 :: u37 :: u38 :: u39 :: u40 :: u41 :: u42 :: undef :: undef :: undef :: undef :: undef :: undef :: []),defers := ml.map mk1 } /\ EachI A t lB eB w m W S L ml p cap lv
theorem EachC.last {lB eB : Nat} {w : World} {W : World} {n : Nat} {xs : List Value} {x : Value} {L : List W4} {ml : List Nat} {p : Option Addr} {cap : Nat} {lv : Value} (h : EachC lB eB w W (n + 1) (xs ++ [x]) L ml p cap lv) :
  ∃ g,p = some ⟨g,0,none⟩ /\ lB <= g /\ g < W.heap.size /\ n + 1 <= cap /\ W.cell? ⟨g,n,none⟩ = some x /\ W.ownsRow lB 23 1 (.slice (some ⟨g,0,none⟩) n cap) n xs := by
 have h00 := h.row.1;have hl : xs.length = n := by simpa using h00
 rcases h.row.2 with ⟨_,h0⟩ | ⟨g,cap',cur,hv,hb,hh,hn,hm,hs,ht⟩
 ·omega
 ·injection hv with hv _ hv2;subst hv hv2;have key : ∀ j u,(xs ++ [x])[j]? = some u -> W.cell? ((⟨g,0,none⟩ : Addr).add j) = some u := h.row.cells (g := g) rfl;have ha : ∀ j,(⟨g,0,none⟩ : Addr).add j = ⟨g,j,none⟩ := fun j => by unfold Addr.add;split <;> simp_all
  have k0 := key n x (by rw [<- hl];simp);rw [ha] at k0;refine ⟨g,rfl,hb,(Array.getElem?_eq_some_iff.1 hh).1,hn,k0,⟨by omega,.inr ⟨g,cap,cur,rfl,hb,hh,by omega,hm,hs,?_⟩⟩⟩;have : (cur.toList.take ((n + 1) * 1)).take (n * 1) = (xs ++ [x]).take (n * 1) := by rw [ht]
  rw [List.take_take,Nat.min_eq_left (by omega)] at this;rw [this,<- hl];simp
theorem nd_parts {w : World} {A : Nat -> Prop} {u : Tr} {q : Nat} (h : NdAt w A u (ndPtr q)) : ∃ (k : Int) (s : W4) (lo hi : Int) (z : Bool) (a b : Nat) (pp : Option Addr) (cp c : Nat) (qs : List Nat),w.heap[q]? = some (ndOb k s lo hi z (.slice pp qs.length cp) a b) /\ qs.length = (prts u).length /\ A c /\ c < w.heap.size /\
  (∀ j,j < qs.length -> pp = some ⟨c,0,none⟩ /\ w.cell? ⟨c,j,none⟩ = some (.pointer (some ⟨qs.getD j 0,0,none⟩))) /\ ∀ i t,(prts u)[i]? = some t -> NdAt w A t (ndPtr (qs.getD i 0)) := by
 cases u with
 | mk k s lo hi z a b l =>
 cases h with
 | node _ _ _ _ _ _ _ _ _ p cap us hq hb hc ht =>
  obtain ⟨f,hf0⟩ : ∃ f : Nat -> Nat,f = fun i => match us i with | .pointer (some ad) => ad.block | _ => 0 := ⟨_,rfl⟩
  have hf : ∀ i t,l[i]? = some t -> us i = ndPtr (f i) := fun i t hi => by
   obtain ⟨c,hc⟩ := (ht i t hi).pointer;rw [hf0];simp only [hc]
  have hlen : ((List.range l.length).map f).length = l.length := by simp
  have hget : ∀ i,i < l.length -> ((List.range l.length).map f).getD i 0 = f i := by
   intro i hi;simp [hi]
  have key : ∃ c,A c /\ c < w.heap.size /\ ∀ i t,l[i]? = some t -> p = some ⟨c,0,none⟩ /\ w.cell? ⟨c,i,none⟩ = some (us i) := by
   by_cases hl : l.length = 0
   ·obtain rfl : l = [] := List.eq_nil_of_length_eq_zero hl;exact ⟨q,hq,jS hb,fun i t h => by simp at h⟩
   ·obtain ⟨c,h1,h2,h3,_⟩ := hc 0 l[0] (List.getElem?_eq_getElem (by omega));refine ⟨c,h2,h3,fun i t hi => ?_⟩;obtain ⟨c',g1,_,_,g4⟩ := hc i t hi;rw [h1] at g1;injection g1 with g1;injection g1 with g1;subst g1;exact ⟨h1,g4⟩
  obtain ⟨c,h1,h2,h3⟩ := key;refine ⟨k,s,lo,hi,z,a,b,p,cap,c,(List.range l.length).map f,by rw [hlen];exact hb,hlen,h1,h2,fun j hj => ?_,fun i t hi => ?_⟩
  ·rw [hlen] at hj;obtain ⟨g1,g2⟩ := h3 j l[j] (List.getElem?_eq_getElem hj);rw [hget j hj,g2,hf j _ (List.getElem?_eq_getElem hj)];exact ⟨g1,rfl⟩
  ·have hi' : l[i]? = some t := hi;have hlt : i < l.length := (List.getElem?_eq_some_iff.1 hi').1;rw [hget i hlt,<- hf i t hi'];exact ht i t hi'
theorem sum_len (S : List (Nat × Tr)) : S.length <= (S.map fun x => trSize x.2).sum := by
 induction S with
 | nil => simp
 | cons e S ih => have := trSize_pos e.2;simp at *;omega
theorem Tryz.infoNdP : (Tryz.prog.info? 23).map (fun i => (i.zero,i.size,i.bytes)) = some (some (.pointer none),1,8) := by kernel_rfl
theorem trSizes_sum : ∀ l : List Tr,(l.map trSize).sum = trSizes l
 | [] => rfl
 | t :: l => by rw [List.map_cons,List.sum_cons,trSizes,trSizes_sum l]
theorem down_map (qs : List Nat) : (downN (fun j => qs.getD j 0) qs.length qs.length).map (fun y => y.2) = qs.reverse := by
 apply List.ext_getElem
 ·simp [downN]
 ·intro i h1 h2;simp [downN] at h1 ⊢;rw [List.getElem?_eq_getElem (by omega)];rfl
theorem down_ptr (qs : List Nat) : (downN (fun j => qs.getD j 0) qs.length qs.length).map (fun y => (.pointer (some ⟨y.2,0,none⟩) : Value)) = qs.reverse.map fun q : Nat => (.pointer (some ⟨q,0,none⟩) : Value) := by
 rw [<- down_map,List.map_map];rfl
theorem zip_ptr (qs : List Nat) (l : List Tr) (h : qs.length = l.length) : ((qs.zip l).reverse.map fun x => (.pointer (some ⟨x.1,0,none⟩) : Value)) = qs.reverse.map fun q : Nat => (.pointer (some ⟨q,0,none⟩) : Value) := by
 have e : (qs.zip l).map Prod.fst = qs := List.map_fst_zip (by omega);rw [List.map_reverse,List.map_reverse]
 conv => rhs;rw [<- e]
 rw [List.map_map];rfl
theorem zip_size (qs : List Nat) (l : List Tr) (h : qs.length = l.length) : ((qs.zip l).reverse.map fun x => trSize x.2).sum = trSizes l := by
 have e : (qs.zip l).map Prod.snd = l := List.map_snd_zip (by omega)
 have e2 : ((qs.zip l).map fun x => trSize x.2) = l.map trSize := by
  conv => rhs;rw [<- e]
  rw [List.map_map];rfl
 rw [List.map_reverse,List.sum_reverse,e2];exact trSizes_sum l
theorem row_shape {W : World} {b e s k : Nat} {v : Value} {xs : List Value} (h : W.ownsRow b e s v k xs) : ∃ p cap,v = .slice p k cap := by
 rcases h.2 with ⟨rfl,rfl⟩ | ⟨g,cap,cur,rfl,_⟩
 ·exact ⟨_,_,rfl⟩
 ·exact ⟨_,_,rfl⟩
theorem setsTs_rev (S : List (Nat × Tr)) (x : Nat × Tr) : setsTs (((S ++ [x]).map fun x => x.2).reverse) = setsT x.2 ++ setsTs ((S.map fun x => x.2).reverse) := by
 rw [List.map_append,List.reverse_append];rfl
theorem EachI.pop {A : Nat -> Prop} {t : Tr} {lB eB : Nat} {w : World} {m : Nat} {W : World} {S : List (Nat × Tr)} {xp : Nat} {xt : Tr} {L : List W4} {ml : List Nat} {p : Option Addr} {cap : Nat} {lv : Value} (hA : ∀ b,A b -> b < lB) (ht : trSize t <= 1048577000) (h : EachI A t lB eB w m W (S ++ [(xp,xt)]) L ml p cap lv) :
  ∃ (g n : Nat) (W4 : World),p = some ⟨g,0,none⟩ /\ n = S.length /\ n <= 1048577000 /\ n + 1 <= cap /\ W.cell? ⟨eB,0,none⟩ = some (.slice (some ⟨g,0,none⟩) (n + 1) cap) /\ W.frozen? ⟨eB,0,none⟩ = false /\ W.cell? ⟨g,n,none⟩ = some (.pointer (some ⟨xp,0,none⟩)) /\
   W4 = W.setCell ⟨eB,0,none⟩ (.slice (some ⟨g,0,none⟩) n cap) /\ EachC lB eB w W4 n (S.map fun x => .pointer (some ⟨x.1,0,none⟩)) L ml (some ⟨g,0,none⟩) cap lv /\ NdAt w A xt (ndPtr xp) /\ NdAt W4 A xt (ndPtr xp) /\
   L.length <= 1048577000 /\ m = (S.map fun x => trSize x.2).sum + trSize xt /\ (L ++ setOf xt) ++ (setsTs (prts xt) ++ setsTs ((S.map fun x => x.2).reverse)) = setsT t := by
 have hCI := h.c;rw [List.length_append,List.map_append] at hCI;simp only [List.length_cons,List.length_nil,List.map_cons,List.map_nil] at hCI;obtain ⟨g,rfl,hg1,hg2,hcap,hlast,hrow⟩ := hCI.last;have hsum := h.sz;rw [List.map_append,List.sum_append] at hsum;simp only [List.map_cons,List.map_nil,List.sum_cons,List.sum_nil] at hsum;have hmb := h.mb;have hsl := sum_len S;have hst := h.st;rw [setsTs_rev,setsT_eq xt] at hst
 have hLl : L.length <= 1048577000 := by
  have h1 := congrArg List.length hst;rw [List.length_append] at h1;have h2 := sets_le t;omega
 have hn := h.nd (xp,xt) (by simp);have C4 := hCI.set hrow;refine ⟨g,S.length,_,rfl,rfl,by omega,hcap,hCI.bx.cell,hCI.bx.frozen,hlast,rfl,C4,hn,hn.same (fun b hb => C4.be.block b (hA b hb)) C4.be.size,hLl,by omega,?_⟩;rw [<- hst];simp
theorem seach_any (A : Nat -> Prop) (t : Tr) (q lB : Nat) (w : World) (hn : NdAt w A t (ndPtr q)) (hA : ∀ b,A b -> b < lB) (hs : trSize t <= 1048577000) (hb : Boxed w lB 37 (.slice none 0 0)) :
  Calls Tryz.prog 34 #[ndPtr q,.func (.func 35) #[] #[.pointer (some ⟨lB,0,none⟩)]] w fun e w' => e = .returned (.tuple #[]) /\ Below lB w w' /\ ∃ v,Boxed w' lB 37 v /\ SetsOwn lB (setsT t) v w' := by
 have hpos := trSize_pos t;have hlt := hb.lt;have SZ := qhid (ssize_any A t q w hn (by omega));have HT := qhid hn;have HBX := qhid hb;obtain ⟨sz,hsz⟩ : ∃ sz,sz = trSize t := ⟨_,rfl⟩;rw [<- hsz] at SZ hs hpos;have HSZ := qhid hsz;have e1 : (((sz : Nat) : Int) == 0) = false := by simp;omega
 have e2 : decide ((2147483647 : Int) < (sz : Int)) = false := jF (by omega);clear hsz hn hb;refine (callsIn_wide (n := 40)).1 ?_;refine callsIn_of_wp_marks Tryz.func34 rfl trivial ?_ rfl;simp only [Tryz.ntmps34,List.size_toArray,List.length_cons,List.length_nil,Nat.reduceAdd,Nat.reduceSub,Array.replicate_succ,Array.replicate_zero,List.push_toArray,List.append_toArray,List.nil_append,List.cons_append]
 gi_wp2_with fail
 refine ⟨trivial,?_⟩;refine (callsIn_wide.2 SZ.out).mono ?_;rintro e w1 ⟨rfl,hb1⟩;have HB1 := qhid hb1;clear hb1
 gi_wp2_with fail
 have LB1 : Boxed w1 lB 37 (.slice none 0 0) := (HB1.out.block _ hlt).trans HBX.out;have HBE1 : Below lB w w1 := HB1.out.mono (by omega);have hsz1 := HB1.out.size
 have C1 : EachC lB (w1.heap.size + 1) w ((w1.alloc (.cells #[ndPtr q] 23)).alloc (.cells #[.slice (some ⟨w1.heap.size,0,none⟩) 1 1] 58)) 1 [ndPtr q] [] [] (some ⟨w1.heap.size,0,none⟩) 1 (.slice none 0 0) := by
  have e := Boxed.new (w1.alloc (.cells #[ndPtr q] 23)) 58 (.slice (some ⟨w1.heap.size,0,none⟩) 1 1);rw [World.size_alloc] at e;exact ⟨by omega,e,⟨rfl,.inr ⟨_,1,_,rfl,by omega,below_kept (below1 _ _) (heap_new w1 _),by simp,by decide,rfl,rfl⟩⟩,(LB1.alloc _).alloc _,⟨rfl,.inl ⟨rfl,rfl⟩⟩,MarksAt.nil _ _,(HBE1.alloc (by omega) _).alloc (by simp;omega) _⟩
 have HC1 := qhid C1;clear C1 LB1 HBE1;refine wpIn_loopM (EachR A t q lB (w1.heap.size + 1) w1.heap.size sz w) sz ⟨[(q,t)],[],[],_,1,_,_,_,_,_,_,_,_,_,_,_,_,_,_,_,_,_,_,_,_,_,_,_,_,_,_,rfl,HC1.out,hs,by simp [HSZ.out],fun x hx => (by obtain rfl : x = (q,t) := (by simpa using hx);exact HT.out),by simp [setsTs]⟩ ?_;clear HC1;obtain ⟨eB,heB⟩ : ∃ eB,eB = w1.heap.size + 1 := ⟨_,rfl⟩;obtain ⟨gB,hgB⟩ : ∃ gB,gB = w1.heap.size := ⟨_,rfl⟩;rw [<- heB,<- hgB];clear heB hgB HB1 SZ HBX hsz1 e1 e2;rintro m a wr ⟨S,L,ml,p,cap,lv,u6,u19,u20,u21,u22,u23,u24,u25,u26,u27,u28,u29,u30,u31,u32,u33,u34,u35,u36,u37,u38,u39,u40,u41,u42,rfl,HI⟩;have HI := qhid HI
 rcases List.eq_nil_or_concat S with rfl | ⟨S',x,hS⟩
 ·have bx : wr.cell? ⟨eB,0,none⟩ = some (.slice p 0 cap) := HI.out.c.bx.cell
  gi_wp2
  show LeavesInM _ _ _ _ _ _ (ml.map mk1) .returning wr
  refine leaves_marks lB (fun W => Below lB w W /\ Boxed W lB 37 lv /\ W.ownsRow lB 29 4 lv L.length (flatS L) /\ lB < W.heap.size) ?_ ?_ ml wr HI.out.c.mks ⟨HI.out.c.be,HI.out.c.lb,HI.out.c.lr,HI.out.c.lb.lt⟩
  ·rintro W l ⟨h1,h2,h3,h4⟩ hl hd;refine ⟨h1.grown (grownBy_putObj' W l _) (by omega) (fun k e => by cases e;exact hl),h2.kept (grownBy_putObj' W l _) (fun e => ?_),ownsRow_putObj h3 _ hd rfl,Nat.lt_of_lt_of_le h4 (grownBy_putObj' W l _).size⟩
   cases e
   have := (show W.heap[lB]? = _ from h2).symm.trans hd
   cases this
  ·rintro W ⟨h1,h2,h3,h4⟩;refine ⟨_,results_none rfl _ _ _,rfl,h1,lv,h2,?_⟩;have := HI.out.st;simp [setsTs] at this;rw [<- this];exact h3
 ·rw [List.concat_eq_append] at hS;subst hS;obtain ⟨xp,xt⟩ := x;obtain ⟨g,n,W4,rfl,hn,hnm,hcap,bx,bxf,hlast,hW4,hC4,hx,NX,hLl,hsum,hst⟩ := HI.out.pop hA (HSZ.out ▸ hs);have HND := qhid (fun y (hy : y ∈ S') => HI.out.nd y (by simp [hy]));have S1 := qhid (sets1_any A xt xp lB lB lv L W4 NX hC4.lb hC4.lr hLl (Nat.le_of_lt hC4.lb.lt));have HN := qhid hn;have HST := qhid hst;have HSUM := qhid hsum;have HW4 := qhid hW4;have HC4 := qhid hC4;have HX := qhid hx;have HMB := qhid HI.out.mb;have hwn : wrap64 (n : Int) = (n : Int) := by simp [wrap64];omega
  clear hn hst hsum hW4 hC4 hx NX hLl HI HSZ HT
  gi_upto_region 7 with fail
  rw [<- HW4.out];clear bx bxf hlast HW4 hcap
  gi_wp2_with fail
  refine ⟨trivial,?_⟩;refine (callsIn_wide.2 S1.out).mono ?_;rintro e W5 ⟨rfl,hs5⟩;obtain ⟨lv',C5⟩ := HC4.out.visit hs5;clear hs5 HC4 S1;obtain ⟨k,s,lo,hi,z,na,nb,pp,cp,cb,qs,hq,hql,hcA,hcl,hqs,hch⟩ := nd_parts HX.out;have hq5 := (C5.be.block xp (hA xp HX.out.prt.1)).trans hq;have hcb := hA cb hcA;have hqs5 : ∀ j,j < qs.length -> pp = some ⟨cb,0,none⟩ /\ W5.cell? ⟨cb,j,none⟩ = some (.pointer (some ⟨qs.getD j 0,0,none⟩)) := fun j hj => ⟨(hqs j hj).1,(World.cell?_of_block (w := w) (a := ⟨cb,j,none⟩) (C5.be.block cb hcb)).trans (hqs j hj).2⟩
  have x8 := jC hq5 8;have hxl := jS hq5;simp only [Reg.la,Reg.lb,Reg.lc] at x8;have HC5 := qhid C5;have HQS := qhid hqs5;have HCH := qhid hch;have HQL := qhid hql;have hl5 := C5.lb.lt;clear C5 hqs5 hch hql hqs hq hq5 hcl hcA
  gi_wp2_with fail
  refine ⟨trivial,?_⟩;refine (back_in Fence.wide _ trivial rfl pp qs.length cp W5).mono ?_;rintro e W6 ⟨rfl,hW6⟩;clear x8 hxl;have HW6 := qhid hW6;clear hW6
  gi_wp2_with fail
  have B6 : Boxed W6 W5.heap.size 58 (.slice pp qs.length cp) := by rw [HW6.out];exact Boxed.new W5 58 _
  have C6 : EachC lB eB w W6 n (S'.map fun x => .pointer (some ⟨x.1,0,none⟩)) (L ++ setOf xt) ml (some ⟨g,0,none⟩) cap lv' := by rw [HW6.out];exact HC5.out.below (below1 _ _)
  have hz6 : W6.heap.size = W5.heap.size + 1 := by rw [HW6.out,World.size_alloc]
  have hqs6 : ∀ j,j < qs.length -> pp = some ⟨cb,0,none⟩ /\ W6.cell? ⟨cb,j,none⟩ = some (.pointer (some ⟨qs.getD j 0,0,none⟩)) := fun j hj => ⟨(HQS.out j hj).1,by rw [HW6.out];exact ((below1 W5 _).cell (p := ⟨cb,j,none⟩) (by show cb < _;omega)).trans (HQS.out j hj).2⟩
  obtain ⟨xs,hxs⟩ : ∃ xs,xs = S'.map fun x => (.pointer (some ⟨x.1,0,none⟩) : Value) := ⟨_,rfl⟩
  rw [<- hxs] at C6;obtain ⟨L',hL'⟩ : ∃ L',L' = L ++ setOf xt := ⟨_,rfl⟩;rw [<- hL'] at C6;obtain ⟨Bs,hBs⟩ : ∃ Bs,Bs = W5.heap.size := ⟨_,rfl⟩;rw [<- hBs] at B6 hz6 ⊢;have hcb6 : cb < W6.heap.size := by omega
  have heb := C6.bx.lt
  have hqn : qs.length <= 1048577000 := by
   have h1 := HQL.out;have h2 := trSizes_len (prts xt);have h3 := trSize_eq xt;have h4 := HSUM.out;have h5 := HMB.out;omega
  have HXS := qhid hxs;have HL' := qhid hL';have HBs := qhid hBs;have HZ6 := qhid hz6;have hmk : ∀ D ∈ ml,D < W6.heap.size := C6.mks.lt;have heb5 := HC5.out.bx.lt;clear hxs hL' hBs hz6 HW6 HQS HC5 heb;obtain ⟨i0,hif,hy0,hy1,hy2⟩ := info_parts Tryz.infoNdP
  refine wpIn_rangeFunc_ownG rfl (by omega) (gf := 97) (lb := #[.pointer (some ⟨Bs,0,none⟩)]) rfl trivial (enters_of Tryz.func97 (by kernel_rfl) rfl)
   (back_stops Fence.wide _ trivial rfl (by omega) Bs cb pp cp qs (by omega) W6 B6.lt hcb6 B6.cell hqs6) (fun h k => h.trans k) (keepB_b B6.lt hcb6) (Below.refl _ _) (fun _ => rfl)
   (fun pre W => ((∃ v,Boxed W eB 58 v /\ W.ownsRow lB 23 1 v (n + pre.length) (xs ++ pre.map fun y => .pointer (some ⟨y.2,0,none⟩)) /\ True) /\ (∃ v,Boxed W lB 37 v /\ W.ownsRow lB 29 4 v L'.length (flatS L') /\ True)) /\ (MarksAt lB ml W /\ (Below lB w W /\ Boxed W Bs 58 (.slice pp qs.length cp))))
   (fun _ _ _ => False)
   ((((holdsRow_own lB eB 58 23 1 (fun pre : List (Nat × Nat) => n + pre.length) (fun pre => xs ++ pre.map fun y => .pointer (some ⟨y.2,0,none⟩)) (fun _ _ => True)).from _).and ((holdsRow_own lB lB 37 29 4 (fun _ : List (Nat × Nat) => L'.length) (fun _ => flatS L') (fun _ _ => True)).from _)).and
    ((MarksAt.ownFrom lB _ ml hmk).and ((ownFrom_below (Nat.le_of_lt hlt) (by have := C6.lb.lt;omega)).and ((boxed_own Bs 58 (fun _ : List (Nat × Nat) => .slice pp qs.length cp)).from _))))
   (fun _ _ _ _ _ hs _ _ => hs)
   ⟨⟨⟨_,C6.bx,by simpa using C6.row,trivial⟩,⟨_,C6.lb,C6.lr,trivial⟩⟩,C6.mks,C6.be,B6⟩
   (fun y => { tmps := List.toArray (ndPtr q :: .func (.func 35) #[] #[.pointer (some ⟨lB,0,none⟩)] :: undef :: undef :: .int .i64 (sz : Int) :: .pointer (some ⟨eB,0,none⟩) :: .pointer (some ⟨xp,0,none⟩) :: undef :: .pointer (some ⟨y.2,0,none⟩) :: ndPtr q :: .int .i64 (sz : Int) :: .int .i64 (sz : Int) :: .bool false :: .bool false :: .int .i64 (sz : Int) :: .bool false :: .bool false :: ndPtr q :: .slice (some ⟨gB,0,none⟩) 1 1 :: .slice (some ⟨g,0,none⟩) (n + 1) cap :: .int .i64 ((n : Int) + 1) :: .bool true :: .slice (some ⟨g,0,none⟩) (n + 1) cap :: .slice (some ⟨g,0,none⟩) (n + 1) cap :: .int .i64 ((n : Int) + 1) :: .int .i64 (n : Int) :: .pointer (some ⟨g,n,none⟩) :: .pointer (some ⟨xp,0,none⟩) :: .slice (some ⟨g,0,none⟩) (n + 1) cap :: .slice (some ⟨g,0,none⟩) (n + 1) cap :: .int .i64 ((n : Int) + 1) :: .int .i64 (n : Int) :: .slice (some ⟨g,0,none⟩) n cap :: .pointer (some ⟨xp,0,none⟩) :: .bool false :: .func (.func 35) #[] #[.pointer (some ⟨lB,0,none⟩)] :: .pointer (some ⟨xp,0,none⟩) :: .tuple #[] :: .pointer (some ⟨xp,0,none⟩) :: .pointer (some ⟨xp,0,none⟩) :: .pointer (some ⟨xp,8,none⟩) :: .slice pp qs.length cp :: .func (.func 97) #[] #[.pointer (some ⟨Bs,0,none⟩)] :: .int .i64 (y.1 : Int) :: .pointer (some ⟨y.2,0,none⟩) :: undef :: undef :: undef :: undef :: []),defers := [] }) ?assign ?body ?done ?stop
  case assign =>
   intro l y W K hK
   gi_wp2
   exact hK
  case stop =>
   rintro D c pre W _ _ h _;exact h.elim
  case body =>
   rintro l pre y W ⟨⟨⟨v,hv,hrow,_⟩,⟨v2,hv2,hr2,_⟩⟩,hm,hB,hBx⟩ hlen;have hvc := hv.cell;have hvf := hv.frozen;have hle := C6.le;have hvl := hv2.lt;have hnrm := hBx.not_row (by decide) hrow;have H := qhid (And.intro hv (And.intro hrow (And.intro hv2 (And.intro hr2 (And.intro hm (And.intro hB (And.intro hBx hnrm)))))));clear hv hrow hv2 hr2 hm hB hBx hnrm
   gi_wp2_with (gi_at_builtin;go_must (refine wpListIn_append_own_at _ rfl (.tmp 45) (.tmp 47) 58 rfl lB 23 i0 (.pointer none) 1 8 Tryz.underlying58 hif hy0 hy1 hy2 rfl (by decide) v _ _ rfl (ownsAlloc H.out.2.1 _) ⟨W.heap.size,0,none⟩ 1 1 [.pointer (some ⟨y.2,0,none⟩)] rfl rfl (cell_one_new _ _ _) (by simp [Value.oneCell']) (by unfold maxLen;omega) (by omega) (by simp;omega) ?_;intro v' w1 hown' hgrow _ _;obtain ⟨g',cap',rfl⟩ := ownsRow_succ hown';have hv1 := (H.out.1.alloc _).kept hgrow (H.out.1.not_row (by decide) H.out.2.1);have hc1 := hv1.cell;have hf1 := hv1.frozen))
   obtain ⟨a1,a2,a3,a4,a5⟩ := Boxed.appended H.out.1 (by decide) H.out.2.1 (Nat.le_of_lt hvl) hle hown' hgrow;obtain ⟨hv,hrow,hv2,hr2,hm,hB,hBx,hnrm⟩ := H.out;have g1 := World.grownBy_alloc W (.cells #[.pointer (some ⟨y.2,0,none⟩)] 23) none;have s2 := grownBy_setCell' w1 eB (.slice (some ⟨g',0,none⟩) (n + pre.length + 1) cap');have hBx' := ((hBx.alloc _).kept hgrow hnrm).kept s2 (fun e => by have := Option.some.inj e;have := HBs.out;omega);have hv2' := (hv2.alloc (.cells #[.pointer (some ⟨y.2,0,none⟩)] 23)).kept hgrow (hv2.not_row (by decide) hrow);have hr2' := ownsKeep (ownsAlloc hr2 (.cells #[.pointer (some ⟨y.2,0,none⟩)] 23)) hgrow (fun g e e' => rows_apart (by decide) hr2 hrow g e e');have hm' := ((hm.grown g1 (fun r e => by cases e)).grown hgrow (row_isCells (ownsAlloc hrow _))).grown s2 (fun r e => by cases e;exact ⟨_,a1,rfl⟩);refine ⟨a4.from _,⟨(show _ = _ from hBx').trans (show _ = _ from hBx).symm,a5.block cb hcb⟩,⟨⟨_,a2,?_,trivial⟩,⟨v2,hv2'.kept s2 (fun e => ne_box hv2' a1 (by decide) (Option.some.inj e)),ownsKeep hr2' s2 (fun g e e' => a1.not_row (by decide) hr2' (e'.trans e.symm)),trivial⟩⟩,hm',hB.trans a5,hBx'⟩;rw [List.length_append,List.map_append,<- List.append_assoc,<- Nat.add_assoc];exact a3
  case done =>
   rintro D ys W hD rfl ⟨⟨⟨v,hv,hrow,_⟩,⟨v2,hv2,hr2,_⟩⟩,hm,hB,hBx⟩ hK;rw [down_ptr,downN_length] at hrow;obtain ⟨p',cap',rfl⟩ := row_shape hrow;have H := qhid (And.intro hv (And.intro hrow (And.intro hv2 (And.intro hr2 (And.intro hm (And.intro hB hK))))));clear hv hrow hv2 hr2 hm hB hBx hK
   gi_wp2
   obtain ⟨hv,hrow,hv2,hr2,hm,hB,hK⟩ := H.out;refine ⟨(S'.map fun x => trSize x.2).sum + trSizes (prts xt),by have := HSUM.out;have := trSize_eq xt;omega,S' ++ (qs.zip (prts xt)).reverse,L',D :: ml,p',cap',v2,_,_,_,_,_,_,_,_,_,_,_,_,_,_,_,_,_,_,_,_,_,_,_,_,_,rfl,?_⟩;have hkl : (S' ++ (qs.zip (prts xt)).reverse).length = n + qs.length := by rw [List.length_append,List.length_reverse,List.length_zip,<- HQL.out,Nat.min_self,HN.out]
   have hkm : ((S' ++ (qs.zip (prts xt)).reverse).map fun x => (.pointer (some ⟨x.1,0,none⟩) : Value)) = xs ++ (qs.reverse.map fun q : Nat => (.pointer (some ⟨q,0,none⟩) : Value)) := by
    rw [List.map_append,HXS.out,zip_ptr qs (prts xt) HQL.out]
   have hks : (S' ++ (qs.zip (prts xt)).reverse).map (fun x => x.2) = S'.map (fun x => x.2) ++ (prts xt).reverse := by
    rw [List.map_append,List.map_reverse,List.map_snd_zip (by rw [HQL.out];exact jN _)]
   refine ⟨⟨C6.le,by rw [hkl];exact hv,by rw [hkl,hkm];exact hrow,hv2,hr2,hm.cons (by have := C6.lb.lt;omega) (fun E hE => Nat.lt_of_lt_of_le (hmk E hE) hD) hK,hB⟩,by have := HMB.out;have := HSUM.out;have := trSize_eq xt;omega,?_,?_,?_⟩
   ·rw [List.map_append,List.sum_append,zip_size qs (prts xt) HQL.out]
   ·intro y hy
    rcases List.mem_append.1 hy with hy | hy
    ·exact HND.out y hy
    ·obtain ⟨i,hi,rfl⟩ := List.mem_iff_getElem.1 (List.mem_reverse.1 hy);rw [List.length_zip] at hi;have := HCH.out i (prts xt)[i] (List.getElem?_eq_getElem (by omega));rw [List.getD_eq_getElem?_getD,List.getElem?_eq_getElem (by omega)] at this;simpa using this
   ·rw [hks,List.reverse_append,List.reverse_reverse,setss_app,HL'.out];exact HST.out
theorem ssets_any (A : Nat -> Prop) (t : Tr) (q : Nat) (w : World) (hn : NdAt w A t (ndPtr q)) (hs : trSize t <= 1048577000) :
  Calls Tryz.prog 10 #[ndPtr q] w fun e w' => ∃ r,e = .returned r /\ SetsOwn w.heap.size (setsT t) r w' /\ Below w.heap.size w w' := by
 have hb := below1 w (.cells #[.slice none 0 0] 37);have EA := qhid (seach_any (fun b => b < w.heap.size) t q w.heap.size (w.alloc (.cells #[.slice none 0 0] 37)) ((hn.mono (fun b h _ => h)).up hb) (fun b h => h) hs (Boxed.new w 37 (.slice none 0 0)));have HB := qhid hb;clear hb hn
 go_enter Tryz.func10,Tryz.ntmps10
 go_wp2_with fail
 refine EA.out.mono ?_;rintro e w1 ⟨rfl,hb1,v,hv,hr⟩;have hc := hv.cell;have HR := qhid hr;have HB1 := qhid (HB.out.trans hb1);clear hv hr hb1 EA HB
 go_wp2_with fail
 exact bodyPost_ret (by simp [results,Tryz.results10,go_sem]) rfl ⟨_,rfl,HR.out,HB1.out⟩
end
end Go.Proofs.YtlmcgbieobklhaaGreatDoor
